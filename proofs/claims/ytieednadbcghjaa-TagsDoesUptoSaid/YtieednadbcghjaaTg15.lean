/- Layer 19, the program: slices.Clone, Index, Contains, ContainsFunc at rows of numbers; beside -/
import Derived.Test.YtieednadbcghjaaTg13
import Derived.Test.YtieednadbcghjaaTg14
import Derived.Lib.SliceRun
set_option linter.unusedSimpArgs false
set_option linter.unusedVariables false
namespace Go.Proofs.Ytieednadbcghjaa
set_option linter.unusedVariables false
open Go.RowKit Go.Lib

set_option maxRecDepth 100000 in
theorem cloneI_any (p : Option Addr) (n c : Nat) (L : List Int) (w : World) (h : Gs encI w p n L) (hpc : p = none → c = 0) (hnc : n ≤ c) (hn : n ≤ 2097200) :
    Calls Try.prog 48 #[.slice p n c] w fun e w' => ∃ p' c', e = .returned (.slice p' n c') ∧ Gw encI w' w.heap.size (.slice p' n c') L ∧ Below w.heap.size w w' := by
  have H := Lib.hid h
  have HB0 : Hid (Below w.heap.size w (w.alloc (.cells #[] 3))) := Lib.hid ((Below.refl _ _).alloc (Nat.le_refl _) _)
  have HO0 := Lib.hid (Gw.empty encI w w.heap.size (Nat.le_refl _))
  have hq : ∀ (w : World) (a : Option Addr) (n c n' c' : Nat), (binOp .eql 34 (.slice a n c) (.slice none n' c')).run Try.prog w = .ok (.bool a.isNone) w := fun w a n c n' c' => Lib.run_eql_slice_nil w _ _ a n c n' c' Try.underlying34
  cases p with
  | none =>
    obtain rfl := hpc rfl
    obtain rfl : n = 0 := by omega
    obtain rfl : L = [] := List.length_eq_zero_iff.1 h.1
    clear h hpc
    go_enter Try.func48, Try.ntmps48
    go_wp2
    go_ret
    exact ⟨none, 0, rfl, Gw.nil _ _ _, Below.refl _ _⟩
  | some ad =>
    have HD := Lib.hid (h.later HB0.out)
    have HZ : Hid (([] : List Int).length + n ≤ 2097216) := Lib.hid (by simp; omega)
    clear h hpc hnc hn
    go_enter Try.func48, Try.ntmps48
    go_wp2_with (refine wpList_append_gen encI rfl (.tmp 5) (.tmp 6) 34 rfl Try.underlying34 (.int .i64 0) 8 infoI rfl (by decide) w.heap.size _ [] rfl HO0.out _ n c L rfl HD.out (fun h => by cases h) HZ.out HB0.out.size ?_; intro v5 w5 ho5 hg5; have HO5 := Lib.hid ho5; have HB5 : Hid (Below w.heap.size w w5) := Lib.hid (below_new_gw HB0.out HO0.out hg5 HB0.out.size); clear ho5 hg5)
    go_ret
    have ho := HO5.out
    rw [List.nil_append] at ho
    obtain ⟨p', c', hv, hlc, _, _, hpn⟩ := ho.open
    have hl := H.out.1
    rw [hl] at hv hlc
    subst hv
    exact ⟨p', c', rfl, ho, HB5.out⟩
set_option maxRecDepth 100000 in
theorem indexI_any (p : Option Addr) (m c : Nat) (L : List Int) (n : Int) (w : World) (h : Gs encI w p m L) (hm : m ≤ 2097152) :
    Calls Try.prog 55 #[.slice p m c, .int .i64 n] w fun e w' => ∃ k : Int, e = .returned (.int .i64 k) ∧ decide (0 ≤ k) = decide (n ∈ L) ∧ w' = w := by
  have H := Lib.hid h
  have HL := Lib.hid h.1
  clear h
  go_enter Try.func55, Try.ntmps55
  go_wp2
  go_loopw [8] (fun i wr => ∃ k : Nat, k ≤ m ∧ i = .int .i64 k ∧ Hid (n ∉ L.take k) ∧ wr = w) (fun i _ => m - (intOf i).toNat)
  case atStart => exact ⟨0, Nat.zero_le _, rfl, Lib.hid (by simp), rfl⟩
  case round =>
    obtain ⟨k, hk, rfl, HNO, rfl⟩ := hrel
    by_cases hlt : k < m
    · obtain ⟨b, off, rfl, c0⟩ := H.out.it k hlt
      have hkn : (k : Int) < (m : Int) := by omega
      have hk0 : (0 : Int) ≤ (k : Int) := by omega
      have HKL : Hid (k < L.length) := Lib.hid (by rw [HL.out]; exact hlt)
      have HG : Hid (L.getD k 0 ∈ L) := Lib.hid (by rw [List.getD_eq_getElem?_getD, List.getElem?_eq_getElem HKL.out]; exact List.getElem_mem _)
      have HT : Hid (L.take (k + 1) = L.take k ++ [L.getD k 0]) := Lib.hid (by rw [List.take_succ_eq_append_getElem HKL.out, List.getD_eq_getElem?_getD, List.getElem?_eq_getElem HKL.out]; rfl)
      generalize L.getD k 0 = y at *
      by_cases hy : n = y
      · have heq : (n == y) = true := by simpa using hy
        have HM : Hid (n ∈ L) := Lib.hid (by rw [hy]; exact HG.out)
        clear hy
        go_wp2
        go_ret
        exact ⟨_, rfl, by rw [decide_eq_true HM.out]; exact decide_eq_true hk0, rfl⟩
      · have heq : (n == y) = false := by simpa using hy
        have HNO2 : Hid (n ∉ L.take (k + 1)) := Lib.hid (by
          rw [HT.out, List.mem_append]
          rintro (h | h)
          · exact HNO.out h
          · rw [List.mem_singleton] at h
            exact hy h)
        clear hy
        go_wp2
        exact ⟨⟨k + 1, by omega, by go_num, HNO2, by first | rfl | trivial⟩, by simp [intOf] <;> omega⟩
    · obtain rfl : k = m := by omega
      have HM : Hid (n ∉ L) := Lib.hid (by have h1 := HNO.out; rwa [List.take_of_length_le (by rw [HL.out]; exact Nat.le_refl _)] at h1)
      go_wp2
      go_ret
      exact ⟨_, rfl, by rw [decide_eq_false HM.out]; rfl, rfl⟩
set_option maxRecDepth 100000 in
theorem containsI_any (p : Option Addr) (m c : Nat) (L : List Int) (n : Int) (w : World) (h : Gs encI w p m L) (hm : m ≤ 2097152) :
    Calls Try.prog 44 #[.slice p m c, .int .i64 n] w fun e w' => e = .returned (.bool (decide (n ∈ L))) ∧ w' = w := by
  have HC := Lib.hid (indexI_any p m c L n w h hm)
  clear h hm
  go_enter Try.func44, Try.ntmps44
  go_wp2_with fail
  refine HC.out.mono ?_
  rintro e w2 ⟨k, rfl, h3, rfl⟩
  have H3 := Lib.hid h3
  clear h3
  go_wp2
  go_ret
  exact ⟨ret_bool H3.out, rfl⟩
end Go.Proofs.Ytieednadbcghjaa
