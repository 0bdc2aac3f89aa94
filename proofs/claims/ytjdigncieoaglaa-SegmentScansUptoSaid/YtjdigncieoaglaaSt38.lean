/- Layer 15, the reference: Wrong -/
import Derived.Test.YtjdigncieoaglaaSt11
import Derived.Test.YtjdigncieoaglaaSt14
import Derived.Test.YtjdigncieoaglaaSt18
set_option linter.unusedSimpArgs false
set_option linter.unusedVariables false
namespace Go.Proofs.Ytjdigncieoaglaa
set_option linter.unusedVariables false
open Go.RowKit Go.Lib

theorem firstN_at {l : List Rc} {j : Nat} {r : Rc} (hr : l[j]? = some r) (h : ∀ (i : Nat) (r' : Rc), i < j → l[i]? = some r' → rightN r' = 0) (hn : rightN r ≠ 0) : firstN l = rightN r := by
  induction l generalizing j with
  | nil => simp at hr
  | cons x l ih =>
    cases j with
    | zero =>
      simp only [List.getElem?_cons_zero, Option.some.injEq] at hr
      subst hr
      unfold firstN
      rw [if_pos hn]
    | succ j =>
      unfold firstN
      rw [if_neg (by rw [h 0 x (by omega) rfl]; simp)]
      exact ih (by simpa using hr) fun i r' hi hri => h (i + 1) r' (by omega) (by simpa using hri)
theorem wrongN_kind {l : List Rc} {j : Nat} {r : Rc} (hr : l[j]? = some r) (h : r.k < 1 ∨ r.k > 5) : wrongN l = 2 := by
  unfold wrongN
  rw [if_neg (by rintro rfl; simp at hr), if_pos (show kindsN l = false from kindsN_at hr h)]
theorem wrongN_first {l : List Rc} (h0 : l ≠ []) (h : ∀ (i : Nat) (r : Rc), l[i]? = some r → 1 ≤ r.k ∧ r.k ≤ 5) : wrongN l = firstN l := by
  unfold wrongN
  rw [if_neg h0, if_neg]
  rw [kindsN_true.2 fun r hr => by
    obtain ⟨i, hi⟩ := List.mem_iff_getElem?.1 hr
    exact h i r hi]
  simp
theorem firstN_none {l : List Rc} (h : ∀ (i : Nat) (r : Rc), l[i]? = some r → rightN r = 0) : firstN l = 0 := firstN_zero.2 fun r hr => by
  obtain ⟨i, hi⟩ := List.mem_iff_getElem?.1 hr
  exact h i r hi

set_option maxRecDepth 100000 in
set_option maxHeartbeats 2000000 in
theorem rwrong_any (p : Option Addr) (n c : Nat) (L : List Rx) (w : World) (h : Gs encRc w p n L) (hf : ∀ x ∈ L, x.1.Fit w) (hn : n ≤ 1048576) :
    Calls Try.prog 41 #[.slice p n c] w fun e w' => e = .returned (.int .i64 (wrongN (rcL L))) ∧ Below w.heap.size w w' := by
  have H := Lib.hid h
  have HF := Lib.hid hf
  have HLL := Lib.hid h.len
  have HLR : Hid ((rcL L).length = n) := Lib.hid (by rw [rcL_length, h.len])
  have HRI := Lib.hid fun (x : Rx) W (hW : x.1.Fit W) => rright_any x.1 W hW.dg.1 hW.bs.len hW.nm
  unfold Rq.v at HRI
  obtain ⟨R, hR⟩ : ∃ R, wrongN (rcL L) = R := ⟨_, rfl⟩
  rw [hR]
  have HR := Lib.hid hR
  clear h hf hR
  by_cases h0 : n = 0
  · subst h0
    have hl : L = [] := List.length_eq_zero_iff.1 HLL.out
    replace HR : Hid (R = 2) := Lib.hid (by rw [← HR.out, hl]; rfl)
    clear hl
    go_enter Try.func41, Try.ntmps41
    go_wp2
    go_ret
    exact ⟨by rw [HR.out]; rfl, Below.refl _ _⟩
  have hne : ((n : Int) == 0) = false := by simpa using h0
  have HNE : Hid (rcL L ≠ []) := Lib.hid fun hh => h0 (by rw [← HLR.out, hh]; rfl)
  obtain ⟨b, off, rfl, _⟩ := H.out.ptr 0 (by omega)
  clear h0
  go_enter Try.func41, Try.ntmps41
  go_wp2
  go_loopw [3] (fun i wr => ∃ k : Nat, k ≤ n ∧ i = .int .i64 (k : Int) ∧ Hid (∀ (j : Nat) (r : Rc), j < k → (rcL L)[j]? = some r → 1 ≤ r.k ∧ r.k ≤ 5) ∧ w = wr) (fun i _ => n - (intOf i).toNat)
  case atStart => exact ⟨0, by omega, rfl, Lib.hid (fun j r hj => by omega), rfl⟩
  case round =>
    obtain ⟨k, hk, rfl, HQ, rfl⟩ := hrel
    by_cases hlt : k < n
    · obtain ⟨x, hLk, hRk, hxm, hcell, hrng⟩ := H.out.recAt k hlt
      have HRK := Lib.hid hRk
      have hki : (k : Int) < (n : Int) := by omega
      by_cases h1 : x.1.k < 1
      · have HRR : Hid (R = 2) := Lib.hid (by rw [← HR.out]; exact wrongN_kind HRK.out (Or.inl h1))
        clear hrng hLk hRk
        go_wp2
        go_ret
        exact ⟨by rw [HRR.out]; rfl, Below.refl _ _⟩
      by_cases h5 : x.1.k > 5
      · have HRR : Hid (R = 2) := Lib.hid (by rw [← HR.out]; exact wrongN_kind HRK.out (Or.inr h5))
        clear hrng hLk hRk
        go_wp2
        go_ret
        exact ⟨by rw [HRR.out]; rfl, Below.refl _ _⟩
      · have HQ' : Hid (∀ (j : Nat) (r : Rc), j < k + 1 → (rcL L)[j]? = some r → 1 ≤ r.k ∧ r.k ≤ 5) := Lib.hid fun j r hj hr => by
          by_cases e : j = k
          · subst e
            rw [HRK.out] at hr
            simp only [Option.some.injEq] at hr
            subst hr
            exact ⟨by show 1 ≤ x.1.k; omega, by show x.1.k ≤ 5; omega⟩
          · exact HQ.out j r (by omega) hr
        clear hrng hLk hRk
        go_wp2
        exact ⟨⟨k + 1, by omega, by go_num, HQ', (by first | rfl | trivial)⟩, by simp [intOf] <;> omega⟩
    · obtain rfl : k = n := by omega
      have HWF : Hid (R = firstN (rcL L)) := Lib.hid (by
        rw [← HR.out]
        refine wrongN_first HNE.out fun i r hr => HQ.out i r ?_ hr
        rw [← HLR.out]
        exact (List.getElem?_eq_some_iff.1 hr).1)
      clear HQ hlt
      go_wp2
      go_loopw [4] (fun i wr => ∃ m : Nat, m ≤ k ∧ i = .int .i64 (m : Int) ∧ Hid (∀ (j : Nat) (r : Rc), j < m → (rcL L)[j]? = some r → rightN r = 0) ∧ Hid (Below w.heap.size w wr)) (fun i _ => k - (intOf i).toNat)
      case atStart => exact ⟨0, by omega, rfl, Lib.hid (fun j r hj => by omega), Lib.hid (Below.refl _ _)⟩
      case round =>
        obtain ⟨m, hm, rfl, HZ, HB⟩ := hrel
        by_cases hlt : m < k
        · obtain ⟨x, hLk, hRk, hxm, _, hrng⟩ := (H.out.later HB.out).recAt m hlt
          have HRK := Lib.hid hRk
          have HRG := Lib.hid fun V (hV : Below wr.heap.size wr V) => rec_load (range_later hrng hV)
          have HFX := Lib.hid fun V (hV : Below w.heap.size w V) => (HF.out x hxm).later hV
          have hmi : (m : Int) < (k : Int) := by omega
          obtain ⟨r, hr⟩ : ∃ r, rightN x.1.rc = r := ⟨_, rfl⟩
          have HRX := Lib.hid (HRI.out x)
          rw [hr] at HRX
          by_cases hz : r = 0
          · subst hz
            have HZ' : Hid (∀ (j : Nat) (r : Rc), j < m + 1 → (rcL L)[j]? = some r → rightN r = 0) := Lib.hid fun j r' hj hr' => by
              by_cases e : j = m
              · subst e
                rw [HRK.out] at hr'
                simp only [Option.some.injEq] at hr'
                subst hr'
                exact hr
              · exact HZ.out j r' (by omega) hr'
            clear hrng hLk hRk hr hxm
            go_wp2_with (first
              | (refine wpList_ld rfl _ _ rfl _ rfl _ (HRG.out _ (Below.refl _ _)) ?_)
              | (go_at_call 20; refine (HRX.out _ (HFX.out _ HB.out)).mono ?_; rintro e w1 ⟨rfl, hb1⟩; have HB1 := Lib.hid (below_step HB.out hb1); clear hb1))
            exact ⟨⟨m + 1, by omega, by go_num, HZ', HB1⟩, by simp [intOf] <;> omega⟩
          · have HRR : Hid (R = r) := Lib.hid (by rw [HWF.out, ← hr]; exact firstN_at HRK.out (fun i r' hi hri => HZ.out i r' hi hri) (by rw [hr]; exact hz))
            have hne2 : (r != 0) = true := by simpa using hz
            clear hrng hLk hRk hr hxm hz
            go_wp2_with (first
              | (refine wpList_ld rfl _ _ rfl _ rfl _ (HRG.out _ (Below.refl _ _)) ?_)
              | (refine wpList_ld rfl _ _ rfl _ rfl _ (HRG.out _ HC1.out) ?_)
              | (go_at_call 20; (fail_if_success (have hh := HC1.out)); refine (HRX.out _ (HFX.out _ HB.out)).mono ?_; rintro e w1 ⟨rfl, hb1⟩; have HC1 := Lib.hid hb1; have HB1 := Lib.hid (below_step HB.out hb1); clear hb1)
              | (go_at_call 20; refine (HRX.out _ (HFX.out _ HB1.out)).mono ?_; rintro e w2 ⟨rfl, hb2⟩; have HB2 := Lib.hid (below_step HB1.out hb2); clear hb2))
            go_ret
            exact ⟨by rw [HRR.out]; rfl, HB2.out⟩
        · obtain rfl : m = k := by omega
          have HRR : Hid (R = 0) := Lib.hid (by
            rw [HWF.out]
            refine firstN_none fun i r hr => HZ.out i r ?_ hr
            rw [← HLR.out]
            exact (List.getElem?_eq_some_iff.1 hr).1)
          go_wp2
          go_ret
          exact ⟨by rw [HRR.out]; rfl, HB.out⟩
end Go.Proofs.Ytjdigncieoaglaa
