/- The walk of the statement DigestOrder. -/
import Derived.Test.YtlggbicjgddnaaaDoorDigC
import Derived.Deep.Cut
namespace Go.Proofs.YtlggbicjgddnaaaDoor
set_option linter.unusedVariables false
open Go.RowKit Go.Lib

theorem dcmp_ways {a b : List Int} (hl : a.length = b.length) : (dlt a b = true ∧ dlt b a = false ∧ a ≠ b ∧ dcmp a b = -1 ∧ dcmp b a = 1) ∨ (a = b ∧ dlt a b = false ∧ dlt b a = false ∧ dcmp a b = 0 ∧ dcmp b a = 0) ∨ (dlt a b = false ∧ dlt b a = true ∧ a ≠ b ∧ dcmp a b = 1 ∧ dcmp b a = -1) := by
  cases h1 : dlt a b
  · cases h2 : dlt b a
    · have e := dlt_total hl h1 h2
      subst e
      refine Or.inr (Or.inl ⟨rfl, rfl, rfl, ?_, ?_⟩) <;> simp [dcmp, h1]
    · have hne : a ≠ b := fun e => by subst e; rw [h1] at h2; cases h2
      refine Or.inr (Or.inr ⟨rfl, rfl, hne, ?_, ?_⟩)
      · simp [dcmp, h1, hne]
      · simp [dcmp, h2]
  · have h2 := dlt_asymm h1
    have hne : a ≠ b := fun e => by subst e; rw [h1] at h2; cases h2
    refine Or.inl ⟨rfl, h2, hne, ?_, ?_⟩
    · simp [dcmp, h1]
    · simp [dcmp, h2, show ¬ b = a from fun e => hne e.symm]
theorem dcmp_le {a b : List Int} (hl : a.length = b.length) : dcmp a b ≤ 0 ↔ (dlt a b = true ∨ a = b) := by
  rcases dcmp_ways hl with ⟨h1, _, _, h4, _⟩ | ⟨h1, _, _, h4, _⟩ | ⟨h1, _, h3, h4, _⟩ <;> rw [h4]
  · simp [h1]
  · simp [h1]
  · simp [h1, h3]
theorem dcmp_trans {a b c : List Int} (hab : a.length = b.length) (hbc : b.length = c.length) (h1 : dcmp a b ≤ 0) (h2 : dcmp b c ≤ 0) : dcmp a c ≤ 0 := by
  rw [dcmp_le hab] at h1
  rw [dcmp_le hbc] at h2
  rw [dcmp_le (hab.trans hbc)]
  rcases h1 with h1 | rfl
  · rcases h2 with h2 | rfl
    · exact Or.inl (dlt_trans h1 h2)
    · exact Or.inl h1
  · exact h2

set_option maxRecDepth 100000 in
set_option maxHeartbeats 4000000 in
theorem digestorder_walk (hOf : OfOk) (hText : TextOk) (hCmp : CmpOk) (a b c : List Int) (w : World) (ha : dok a) (hb : dok b) (hc : dok c) (hK : Kw w) :
    Calls Tryd.prog 4 #[.agg (bcs a), .agg (bcs b), .agg (bcs c)] w fun e w' => e = .returned (.bool true) ∧ Below w.heap.size w w' := by
  have HOF := Lib.hid hOf
  have HTX := Lib.hid hText
  have HCM := Lib.hid hCmp
  have HA := Lib.hid ha
  have HB := Lib.hid hb
  have HC := Lib.hid hc
  have HK := Lib.hid hK
  have HPOS := Lib.hid hK.pos
  have HB0 : Hid (Below w.heap.size w (((w.alloc (.cells (bcs a) 24)).alloc (.cells (bcs b) 24)).alloc (.cells (bcs c) 24))) := Lib.hid ((((Below.refl _ _).alloc (Nat.le_refl _) _).alloc (by simp) _).alloc (by simp; omega) _)
  have HYA : Hid (Yw (((w.alloc (.cells (bcs a) 24)).alloc (.cells (bcs b) 24)).alloc (.cells (bcs c) 24)) w.heap.size 24 a) := Lib.hid (Yw.later (w := w.alloc (.cells (bcs a) 24)) (heap_alloc_new _ _) (((Below.refl _ _).alloc (Nat.le_refl _) _).alloc (by simp) _))
  have HYB : Hid (Yw (((w.alloc (.cells (bcs a) 24)).alloc (.cells (bcs b) 24)).alloc (.cells (bcs c) 24)) (w.heap.size + 1) 24 b) := Lib.hid (by
    have h := heap_alloc_new (w.alloc (.cells (bcs a) 24)) (.cells (bcs b) 24)
    rw [World.size_alloc] at h
    exact Yw.later (w := (w.alloc (.cells (bcs a) 24)).alloc (.cells (bcs b) 24)) h ((Below.refl _ _).alloc (Nat.le_refl _) _))
  have HYC : Hid (Yw (((w.alloc (.cells (bcs a) 24)).alloc (.cells (bcs b) 24)).alloc (.cells (bcs c) 24)) (w.heap.size + 2) 24 c) := Lib.hid (by
    have h := heap_alloc_new ((w.alloc (.cells (bcs a) 24)).alloc (.cells (bcs b) 24)) (.cells (bcs c) 24)
    rw [World.size_alloc, World.size_alloc] at h
    exact h)
  have hIA : Hid ((Tryd.prog.info? 24).map (·.size) = some (a.map (Value.int .u8)).length) := Lib.hid (by rw [List.length_map, ha.1]; exact size32)
  have hIB : Hid ((Tryd.prog.info? 24).map (·.size) = some (b.map (Value.int .u8)).length) := Lib.hid (by rw [List.length_map, hb.1]; exact size32)
  have hIC : Hid ((Tryd.prog.info? 24).map (·.size) = some (c.map (Value.int .u8)).length) := Lib.hid (by rw [List.length_map, hc.1]; exact size32)
  have heq : ∀ W, (Op.equalIn 10000 24 (.agg (a.map (Value.int .u8)).toArray) (.agg (b.map (Value.int .u8)).toArray)).run Tryd.prog W = .ok (decide (a = b)) W := digest_eq a b ha hb
  have HTR : Hid (dcmp a b ≤ 0 → dcmp b c ≤ 0 → dcmp a c ≤ 0) := Lib.hid (dcmp_trans (ha.1.trans hb.1.symm) (hb.1.trans hc.1.symm))
  have hways := dcmp_ways (ha.1.trans hb.1.symm)
  clear ha hb hc hK hOf hText hCmp
  go_enter Tryd.func4, Tryd.ntmps4
  go_wp2_with (first
    | (refine wpList_wanted (by rfl) fun K hK => wp_load_mid 24 _ rfl w.heap.size 0 rfl _ _ HYA.out.rangeAll Tryd.underlying24 rfl hIA.out (hK _ _ ?_); clear hK K)
    | (refine wpList_wanted (by rfl) fun K hK => wp_load_mid 24 _ rfl (w.heap.size + 1) 0 rfl _ _ HYB.out.rangeAll Tryd.underlying24 rfl hIB.out (hK _ _ ?_); clear hK K))
  generalize ((w.alloc (.cells (bcs a) 24)).alloc (.cells (bcs b) 24)).alloc (.cells (bcs c) 24) = w0 at *
  refine (HCM.out a b _ HA.out HB.out).mono ?_
  rintro e w1 ⟨rfl, hb1⟩
  have HB1 := Lib.hid (below_step HB0.out hb1)
  have HYA1 := Lib.hid (HYA.out.later hb1)
  have HYB1 := Lib.hid (HYB.out.later hb1)
  have HYC1 := Lib.hid (HYC.out.later hb1)
  clear hb1 HB0 HYA HYB HYC
  go_wp2_with (first
    | (refine wpList_wanted (by rfl) fun K hK => wp_load_mid 24 _ rfl w.heap.size 0 rfl _ _ HYA1.out.rangeAll Tryd.underlying24 rfl hIA.out (hK _ _ ?_); clear hK K)
    | (refine wpList_wanted (by rfl) fun K hK => wp_load_mid 24 _ rfl (w.heap.size + 1) 0 rfl _ _ HYB1.out.rangeAll Tryd.underlying24 rfl hIB.out (hK _ _ ?_); clear hK K))
  refine (HCM.out b a _ HB.out HA.out).mono ?_
  rintro e w2 ⟨rfl, hb2⟩
  have HB2 := Lib.hid (below_step HB1.out hb2)
  have HYA2 := Lib.hid (HYA1.out.later hb2)
  have HYB2 := Lib.hid (HYB1.out.later hb2)
  have HYC2 := Lib.hid (HYC1.out.later hb2)
  clear hb2 HB1 HYA1 HYB1 HYC1
  rcases hways with ⟨h1, h2, h3, h4, h5⟩ | ⟨h3, h1, h2, h4, h5⟩ | ⟨h1, h2, h3, h4, h5⟩
  · rw [h4, h5]
    rw [h4] at HTR
    have HL1 := Lib.hid h1
    rw [decide_eq_false h3] at heq
    clear h1 h2 h3 h4 h5
    go_wp2_with (first
      | (refine wpList_wanted (by rfl) fun K hK => wp_load_mid 24 _ rfl w.heap.size 0 rfl _ _ HYA2.out.rangeAll Tryd.underlying24 rfl hIA.out (hK _ _ ?_); clear hK K)
      | (refine wpList_wanted (by rfl) fun K hK => wp_load_mid 24 _ rfl (w.heap.size + 1) 0 rfl _ _ HYB2.out.rangeAll Tryd.underlying24 rfl hIB.out (hK _ _ ?_); clear hK K))
    refine (rless_any a b _ HA.out HB.out).mono ?_
    rintro e w3 ⟨rfl, hb3⟩
    have HB3 := Lib.hid (below_step HB2.out hb3)
    have HYA3 := Lib.hid (HYA2.out.later hb3)
    have HYB3 := Lib.hid (HYB2.out.later hb3)
    have HYC3 := Lib.hid (HYC2.out.later hb3)
    clear hb3 HB2 HYA2 HYB2 HYC2
    rw [HL1.out]
    go_wp2_with (first
      | (refine wpList_wanted (by rfl) fun K hK => wp_load_mid 24 _ rfl w.heap.size 0 rfl _ _ HYA3.out.rangeAll Tryd.underlying24 rfl hIA.out (hK _ _ ?_); clear hK K)
      | (refine wpList_wanted (by rfl) fun K hK => wp_load_mid 24 _ rfl (w.heap.size + 1) 0 rfl _ _ HYB3.out.rangeAll Tryd.underlying24 rfl hIB.out (hK _ _ ?_); clear hK K)
      | (refine wpList_wanted (by rfl) fun K hK => wp_load_mid 24 _ rfl (w.heap.size + 1 + 1) 0 rfl _ _ HYC3.out.rangeAll Tryd.underlying24 rfl hIC.out (hK _ _ ?_); clear hK K))
    refine (HCM.out b c _ HB.out HC.out).mono ?_
    rintro e w4 ⟨rfl, hb4⟩
    have HB4 := Lib.hid (below_step HB3.out hb4)
    have HYA4 := Lib.hid (HYA3.out.later hb4)
    have HYB4 := Lib.hid (HYB3.out.later hb4)
    have HYC4 := Lib.hid (HYC3.out.later hb4)
    clear hb4 HB3 HYA3 HYB3 HYC3
    generalize dcmp b c = y at *
    by_cases hy : 0 < y
    · have hy' : decide (0 < y) = true := by simpa using hy
      go_wp2_with fail
      refine (dlives_any HOF.out HTX.out _ (HK.out.later HB4.out HPOS.out)).mono ?_
      rintro e w9 ⟨rfl, hb9⟩
      have HB9 := Lib.hid (below_step HB4.out hb9)
      clear hb9
      go_wp2
      go_ret
      exact ⟨rfl, HB9.out⟩
    · have HZ := Lib.hid (HTR.out (by omega) (by omega))
      have hy' : decide (0 < y) = false := by simpa using hy
      clear hy
      go_wp2_with (first
        | (refine wpList_wanted (by rfl) fun K hK => wp_load_mid 24 _ rfl w.heap.size 0 rfl _ _ HYA4.out.rangeAll Tryd.underlying24 rfl hIA.out (hK _ _ ?_); clear hK K)
        | (refine wpList_wanted (by rfl) fun K hK => wp_load_mid 24 _ rfl (w.heap.size + 1 + 1) 0 rfl _ _ HYC4.out.rangeAll Tryd.underlying24 rfl hIC.out (hK _ _ ?_); clear hK K))
      refine (HCM.out a c _ HA.out HC.out).mono ?_
      rintro e w5 ⟨rfl, hb5⟩
      have HB5 := Lib.hid (below_step HB4.out hb5)
      have HYA5 := Lib.hid (HYA4.out.later hb5)
      have HYB5 := Lib.hid (HYB4.out.later hb5)
      have HYC5 := Lib.hid (HYC4.out.later hb5)
      clear hb5 HB4 HYA4 HYB4 HYC4
      have hz := HZ.out
      generalize dcmp a c = z at *
      have hz' : decide (z ≤ 0) = true := by simpa using hz
      go_wp2_with fail
      refine (dlives_any HOF.out HTX.out _ (HK.out.later HB5.out HPOS.out)).mono ?_
      rintro e w9 ⟨rfl, hb9⟩
      have HB9 := Lib.hid (below_step HB5.out hb9)
      clear hb9
      go_wp2
      go_ret
      exact ⟨rfl, HB9.out⟩
  · rw [h4, h5]
    rw [h4] at HTR
    have HL1 := Lib.hid h1
    rw [decide_eq_true h3] at heq
    clear h1 h2 h3 h4 h5
    go_wp2_with (first
      | (refine wpList_wanted (by rfl) fun K hK => wp_load_mid 24 _ rfl w.heap.size 0 rfl _ _ HYA2.out.rangeAll Tryd.underlying24 rfl hIA.out (hK _ _ ?_); clear hK K)
      | (refine wpList_wanted (by rfl) fun K hK => wp_load_mid 24 _ rfl (w.heap.size + 1) 0 rfl _ _ HYB2.out.rangeAll Tryd.underlying24 rfl hIB.out (hK _ _ ?_); clear hK K))
    refine (rless_any a b _ HA.out HB.out).mono ?_
    rintro e w3 ⟨rfl, hb3⟩
    have HB3 := Lib.hid (below_step HB2.out hb3)
    have HYA3 := Lib.hid (HYA2.out.later hb3)
    have HYB3 := Lib.hid (HYB2.out.later hb3)
    have HYC3 := Lib.hid (HYC2.out.later hb3)
    clear hb3 HB2 HYA2 HYB2 HYC2
    rw [HL1.out]
    go_wp2_with (first
      | (refine wpList_wanted (by rfl) fun K hK => wp_load_mid 24 _ rfl w.heap.size 0 rfl _ _ HYA3.out.rangeAll Tryd.underlying24 rfl hIA.out (hK _ _ ?_); clear hK K)
      | (refine wpList_wanted (by rfl) fun K hK => wp_load_mid 24 _ rfl (w.heap.size + 1) 0 rfl _ _ HYB3.out.rangeAll Tryd.underlying24 rfl hIB.out (hK _ _ ?_); clear hK K)
      | (refine wpList_wanted (by rfl) fun K hK => wp_load_mid 24 _ rfl (w.heap.size + 1 + 1) 0 rfl _ _ HYC3.out.rangeAll Tryd.underlying24 rfl hIC.out (hK _ _ ?_); clear hK K))
    refine (HCM.out b c _ HB.out HC.out).mono ?_
    rintro e w4 ⟨rfl, hb4⟩
    have HB4 := Lib.hid (below_step HB3.out hb4)
    have HYA4 := Lib.hid (HYA3.out.later hb4)
    have HYB4 := Lib.hid (HYB3.out.later hb4)
    have HYC4 := Lib.hid (HYC3.out.later hb4)
    clear hb4 HB3 HYA3 HYB3 HYC3
    generalize dcmp b c = y at *
    by_cases hy : 0 < y
    · have hy' : decide (0 < y) = true := by simpa using hy
      go_wp2_with fail
      refine (dlives_any HOF.out HTX.out _ (HK.out.later HB4.out HPOS.out)).mono ?_
      rintro e w9 ⟨rfl, hb9⟩
      have HB9 := Lib.hid (below_step HB4.out hb9)
      clear hb9
      go_wp2
      go_ret
      exact ⟨rfl, HB9.out⟩
    · have HZ := Lib.hid (HTR.out (by omega) (by omega))
      have hy' : decide (0 < y) = false := by simpa using hy
      clear hy
      go_wp2_with (first
        | (refine wpList_wanted (by rfl) fun K hK => wp_load_mid 24 _ rfl w.heap.size 0 rfl _ _ HYA4.out.rangeAll Tryd.underlying24 rfl hIA.out (hK _ _ ?_); clear hK K)
        | (refine wpList_wanted (by rfl) fun K hK => wp_load_mid 24 _ rfl (w.heap.size + 1 + 1) 0 rfl _ _ HYC4.out.rangeAll Tryd.underlying24 rfl hIC.out (hK _ _ ?_); clear hK K))
      refine (HCM.out a c _ HA.out HC.out).mono ?_
      rintro e w5 ⟨rfl, hb5⟩
      have HB5 := Lib.hid (below_step HB4.out hb5)
      have HYA5 := Lib.hid (HYA4.out.later hb5)
      have HYB5 := Lib.hid (HYB4.out.later hb5)
      have HYC5 := Lib.hid (HYC4.out.later hb5)
      clear hb5 HB4 HYA4 HYB4 HYC4
      have hz := HZ.out
      generalize dcmp a c = z at *
      have hz' : decide (z ≤ 0) = true := by simpa using hz
      go_wp2_with fail
      refine (dlives_any HOF.out HTX.out _ (HK.out.later HB5.out HPOS.out)).mono ?_
      rintro e w9 ⟨rfl, hb9⟩
      have HB9 := Lib.hid (below_step HB5.out hb9)
      clear hb9
      go_wp2
      go_ret
      exact ⟨rfl, HB9.out⟩
  · rw [h4, h5]
    rw [h4] at HTR
    have HL1 := Lib.hid h1
    rw [decide_eq_false h3] at heq
    clear h1 h2 h3 h4 h5
    go_wp2_with (first
      | (refine wpList_wanted (by rfl) fun K hK => wp_load_mid 24 _ rfl w.heap.size 0 rfl _ _ HYA2.out.rangeAll Tryd.underlying24 rfl hIA.out (hK _ _ ?_); clear hK K)
      | (refine wpList_wanted (by rfl) fun K hK => wp_load_mid 24 _ rfl (w.heap.size + 1) 0 rfl _ _ HYB2.out.rangeAll Tryd.underlying24 rfl hIB.out (hK _ _ ?_); clear hK K))
    refine (rless_any a b _ HA.out HB.out).mono ?_
    rintro e w3 ⟨rfl, hb3⟩
    have HB3 := Lib.hid (below_step HB2.out hb3)
    have HYA3 := Lib.hid (HYA2.out.later hb3)
    have HYB3 := Lib.hid (HYB2.out.later hb3)
    have HYC3 := Lib.hid (HYC2.out.later hb3)
    clear hb3 HB2 HYA2 HYB2 HYC2
    rw [HL1.out]
    go_wp2_with (first
      | (refine wpList_wanted (by rfl) fun K hK => wp_load_mid 24 _ rfl w.heap.size 0 rfl _ _ HYA3.out.rangeAll Tryd.underlying24 rfl hIA.out (hK _ _ ?_); clear hK K)
      | (refine wpList_wanted (by rfl) fun K hK => wp_load_mid 24 _ rfl (w.heap.size + 1) 0 rfl _ _ HYB3.out.rangeAll Tryd.underlying24 rfl hIB.out (hK _ _ ?_); clear hK K)
      | (refine wpList_wanted (by rfl) fun K hK => wp_load_mid 24 _ rfl (w.heap.size + 1 + 1) 0 rfl _ _ HYC3.out.rangeAll Tryd.underlying24 rfl hIC.out (hK _ _ ?_); clear hK K))
    refine (dlives_any HOF.out HTX.out _ (HK.out.later HB3.out HPOS.out)).mono ?_
    rintro e w9 ⟨rfl, hb9⟩
    have HB9 := Lib.hid (below_step HB3.out hb9)
    clear hb9
    go_wp2
    go_ret
    exact ⟨rfl, HB9.out⟩
end Go.Proofs.YtlggbicjgddnaaaDoor
