/- Layer 7: Least by a labelled loop over the candidates. -/
import Derived.Test.YtfnhhkbjbjlckaaFloOr
namespace Go.Proofs.Ytfnhhkbjbjlckaa
set_option linter.unusedVariables false
open Go.RowKit Go.Lib

/-- 'l[i:]' of floats -/
theorem run_floats_from {P : Program} (t e : TypeId) (ht : P.underlying t = some (.slice e)) (hz : ∀ w, (Go.sizeOf e).run P w = .ok 1 w) (b off n cap l : Nat) (hlc : n ≤ cap) (hl : l ≤ n) :
    ∃ p', (∀ W' : World, (Instr.slice t (.slice (some ⟨b, off, none⟩) n cap) (some (.int .i64 (l : Int))) none none).run P W' = .ok (.slice p' (n - l) (cap - l)) W') ∧ (l < n → p' = some ⟨b, off + l, none⟩) := by
  have ht' : P.underlying t = some (.slice (P.elem t)) := by simp [Program.elem, ht]
  have he : P.elem t = e := by simp [Program.elem, ht]
  refine ⟨_, fun W' => by rw [run_slice_l W' t _ _ _ ht' .i64 _ (by omega) (by omega), he, hz]; rfl, ?_⟩
  intro hlt
  simp only [Int.toNat_natCast, Nat.mul_one]
  rw [if_neg (by omega)]
  by_cases h0 : l = 0
  · subst h0; simp [Addr.add]
  · simp [Addr.add, h0]

set_option maxRecDepth 100000 in
theorem least_ok : LeastOk := by
  intro p n cap L w h hlt hpc hlc hcm
  have H := Lib.hid h
  have HLT := Lib.hid hlt
  have HO := Lib.hid fun a b W ha hb => before_any a b ha hb W
  have hn : n ≤ 9223372036854775807 := by unfold maxLen at hcm; omega
  clear h hlt hpc hcm
  go_enter Try.func14, Try.ntmps14
  go_wp2
  go_step3
  go_wp2
  go_step3
  go_wp2
  go_loopw [3] (fun i wr => wr = w ∧ ∃ k : Nat, k ≤ n ∧ (k = n → n = 0) ∧ i = .int .i64 (k : Int) ∧ Hid (∀ j, j < k → ∃ m, m < n ∧ fordP (L.getD m 0) (L.getD j 0) < 0) ∧ Hid (∀ j, j < k → fordP (L.getD k 0) (L.getD j 0) < 0)) (fun i _ => n - (intOf i).toNat)
  case atStart => exact ⟨rfl, 0, by omega, by omega, rfl, Lib.hid (fun j hj => absurd hj (Nat.not_lt_zero _)), Lib.hid (fun j hj => absurd hj (Nat.not_lt_zero _))⟩
  case round =>
    obtain ⟨rfl, k, hk, hk0, rfl, HK, HQ⟩ := hrel
    by_cases hlt : k < n
    · obtain ⟨b, off, rfl, hcl⟩ : ∃ b off, p = some ⟨b, off, none⟩ ∧ ∀ j, j < n → wr.cell? ⟨b, off + j, none⟩ = some (.float .f64 (L.getD j 0)) := by
        rcases H.out.2 with h1 | h1
        · omega
        · exact h1
      have HCL := Lib.hid hcl
      obtain ⟨p', hs, hp'⟩ := run_floats_from (P := Try.prog) 30 22 Try.underlying30 (fun w => by kernel_rfl) b off n cap (k + 1) hlc (by omega)
      have hs' : ∀ W', (Instr.slice 30 (.slice (some ⟨b, off, none⟩) n cap) (some (.int .i64 ((k : Int) + 1))) none none).run Try.prog W' = .ok (.slice p' (n - (k + 1)) (cap - (k + 1))) W' := hs
      have cA := hcl k hlt
      obtain ⟨x, hx⟩ : ∃ x, L.getD k 0 = x := ⟨_, rfl⟩
      have HX := Lib.hid hx
      have HP := Lib.hid hp'
      rw [hx] at cA
      obtain ⟨nn, hnn⟩ : ∃ nn : Nat, nn = n - (k + 1) := ⟨_, rfl⟩
      obtain ⟨cc, hcc⟩ : ∃ cc : Nat, cc = cap - (k + 1) := ⟨_, rfl⟩
      rw [← hnn, ← hcc] at hs'
      have HN := Lib.hid hnn
      clear hcl hx hs hp' hnn hcc hk0
      go_wp2
      go_loopw [3, 15] (fun q i wq => wq = wr ∧ q = .int .i64 (k : Int) ∧ ∃ j : Nat, j ≤ nn ∧ i = .int .i64 (j : Int) ∧ Hid (∀ m, m < j → 0 ≤ fordP (L.getD (k + 1 + m) 0) x)) (fun _ i _ => nn - (intOf i).toNat)
      case atStart => exact ⟨rfl, rfl, 0, by omega, rfl, Lib.hid (fun j hj => absurd hj (Nat.not_lt_zero _))⟩
      case round =>
        obtain ⟨rfl, rfl, j, hj, rfl, HJ⟩ := hrel
        by_cases hlt2 : j < nn
        · obtain rfl := HP.out (by have := HN.out; omega)
          have cB := HCL.out (k + 1 + j) (by have := HN.out; omega)
          rw [← Nat.add_assoc] at cB
          have HC := Lib.hid (HO.out (L.getD (k + 1 + j) 0) x wr (HLT.out _) (by rw [← HX.out]; exact HLT.out k))
          have HJ2 : Hid (fbef (L.getD (k + 1 + j) 0) x = false → ∀ m, m < j + 1 → 0 ≤ fordP (L.getD (k + 1 + m) 0) x) := Lib.hid fun h m hm => by
            by_cases e : m = j
            · rw [e]; have := of_decide_eq_false h; omega
            · exact HJ.out m (by omega)
          have HK2 : Hid (fbef (L.getD (k + 1 + j) 0) x = true → ∀ q, q < k + 1 + j → fordP (L.getD (k + 1 + j) 0) (L.getD q 0) < 0) := Lib.hid fun h q hq => by
            have h1 := (fordP_neg _ _).1 (of_decide_eq_true h)
            rw [fordP_neg]
            rcases Nat.lt_trichotomy q k with e | e | e
            · have h2 := (fordP_neg _ _).1 (HQ.out q e)
              rw [HX.out] at h2
              omega
            · rw [e, HX.out]; exact h1
            · have h2 := HJ.out (q - (k + 1)) (by omega)
              rw [show k + 1 + (q - (k + 1)) = q by omega] at h2
              have h3 : ¬ fky (L.getD q 0) < fky x := fun h => by have := (fordP_neg _ _).2 h; omega
              omega
          have HB := Lib.hid (show k + 1 + j < n by have := HN.out; omega)
          generalize hbb : fbef (L.getD (k + 1 + j) 0) x = c at HC HJ2 HK2
          clear hbb
          generalize L.getD (k + 1 + j) 0 = y at cB HC
          have hB := HB.out
          cases c
          · have HJ3 := Lib.hid (HJ2.out rfl)
            clear HJ2 HK2 HJ HCL
            go_wp2_with fail
            refine HC.out.mono ?_
            rintro e w2 ⟨rfl, rfl⟩
            go_wp2
            exact ⟨⟨trivial, rfl, j + 1, by omega, by go_num, HJ3⟩, by simp [intOf] <;> omega⟩
          · have HK3 := Lib.hid (HK2.out rfl)
            have HK4 : Hid (∀ q, q < k + 1 + j → ∃ m, m < n ∧ fordP (L.getD m 0) (L.getD q 0) < 0) := Lib.hid fun q hq => ⟨_, HB.out, HK3.out q hq⟩
            clear HJ2 HK2 HJ HCL
            go_wp2_with fail
            refine HC.out.mono ?_
            rintro e w2 ⟨rfl, rfl⟩
            go_wp2
            exact ⟨⟨trivial, k + 1 + j, by omega, by omega, by go_num, HK4, HK3⟩, by simp [intOf] <;> omega⟩
        · obtain rfl : j = nn := by omega
          have HF : Hid (fleastK L n = (k : Int)) := Lib.hid (fleast_char hlt (fun m hm h => by
              rcases Nat.lt_trichotomy m k with e | e | e
              · have h1 := (fordP_neg _ _).1 (HQ.out m e)
                have h2 := (fordP_neg _ _).1 h
                omega
              · rw [e, fordP_self] at h; omega
              · have h2 := HJ.out (m - (k + 1)) (by have := HN.out; omega)
                rw [show k + 1 + (m - (k + 1)) = m by omega, ← HX.out] at h2
                omega) HK.out)
          go_wp2
          rw [Exit.noGoto_ret]
          go_ret
          exact ⟨by rw [HF.out]; rfl, Below.refl _ _⟩
    · obtain rfl : k = n := by omega
      obtain rfl := hk0 rfl
      have HF : Hid (fleastK L 0 = -1) := Lib.hid rfl
      clear hk0
      go_wp2
      rw [Exit.noGoto_ret]
      go_ret
      exact ⟨by rw [HF.out]; rfl, Below.refl _ _⟩
end Go.Proofs.Ytfnhhkbjbjlckaa
