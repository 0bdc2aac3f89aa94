/- The reference's slow sums: the fractions of the roots of the first primes. -/
import Derived.Test.YtmhijcciblhjbaaDoorShaS3
import Derived.Test.YtmhijcciblhjbaaDoorShaR2
namespace Go.Proofs.YtmhijcciblhjbaaDoor
set_option linter.unusedVariables false
open Go.RowKit Go.Lib

def fracs (third : Bool) : Nat → List Nat
  | 0 => []
  | k + 1 => if primeN (k + 2) then fracs third k ++ [fracN (k + 2) third % 4294967296] else fracs third k
theorem fracs_mono (third : Bool) (k j : Nat) : (fracs third k).length ≤ (fracs third (k + j)).length := by
  induction j with
  | zero => exact Nat.le_refl _
  | succ j ih =>
    refine Nat.le_trans ih ?_
    show _ ≤ (fracs third (k + j + 1)).length
    rw [fracs]
    split
    · simp
    · exact Nat.le_refl _
theorem fraction_any (p : Nat) (third : Bool) (w : World) : Calls Tryd.prog 19 #[.int .u64 (p : Int), .bool third] w fun e w' => e = .returned (.int .u64 ((fracN p third : Nat) : Int)) ∧ Below w.heap.size w w' := by
  cases third
  · exact fraction_false p w
  · exact fraction_true p w

set_option maxRecDepth 100000 in
theorem fractions_any (third : Bool) (n K : Nat) (w : World) (hn : n ≤ 64) (hK : K < 1000) (h1 : (fracs third K).length = n) (h2 : ∀ k, k < K → (fracs third k).length < n) : Calls Tryd.prog 12 #[.int .i64 (n : Int), .bool third] w fun e w' => ∃ v, e = .returned v ∧ On .u32 w' w.heap.size 37 v (fracs third K) ∧ Below w.heap.size w w' := by
  have H1 := Lib.hid h1
  have H2 := Lib.hid h2
  have HBR : Hid (Below w.heap.size w w) := Lib.hid (Below.refl _ _)
  clear h1 h2
  go_enter Tryd.func12, Tryd.ntmps12
  go_wp2
  go_loopw [5, 6] (fun v p wr => ∃ (k : Nat) (q : Option Addr) (L c : Nat), k ≤ K ∧ p = .int .u64 ((k + 2 : Nat) : Int) ∧ v = .slice q L c ∧ Hid (On .u32 wr w.heap.size 37 (.slice q L c) (fracs third k)) ∧ Hid (Below w.heap.size w wr)) (fun _ p _ => K + 2 - (intOf p).toNat)
  case atStart => exact ⟨0, none, 0, 0, by omega, rfl, rfl, Lib.hid (On.nil _ _ _), HBR⟩
  case round =>
    clear HBR
    obtain ⟨k, q, L, c, hk, rfl, rfl, ho, hbl⟩ := hrel
    have hL : (fracs third k).length = L := ho.out.len
    by_cases hlt : k < K
    · have hLn : L < n := by rw [← hL]; exact H2.out k hlt
      obtain ⟨p, hp⟩ : ∃ p, k + 2 = p := ⟨_, rfl⟩
      rw [hp]
      have HP := Lib.hid hp
      have hp2 : p < 1048576 := by omega
      have HL := Lib.hid hL
      clear hp hL
      go_wp2_with fail
      refine (prime_any p _ hp2).mono ?_
      rintro e w1 ⟨rfl, rfl⟩
      have HF : Hid (fracs third (k + 1) = if primeN p then fracs third k ++ [fracN p third % 4294967296] else fracs third k) := Lib.hid (by rw [← HP.out]; rfl)
      cases hpr : primeN p
      · rw [hpr] at HF
        have HF2 : Hid (fracs third (k + 1) = fracs third k) := Lib.hid (by rw [HF.out]; rfl)
        clear hpr HF
        go_wp2
        have hpp := HP.out
        refine ⟨?_, by simp [intOf] <;> omega⟩
        exact ⟨k + 1, q, L, c, by omega, by have := HP.out; go_num, rfl, Lib.hid (by rw [HF2.out]; exact ho.out), hbl⟩
      · rw [hpr] at HF
        have HF2 : Hid (fracs third (k + 1) = fracs third k ++ [fracN p third % 4294967296]) := Lib.hid (by rw [HF.out]; rfl)
        clear hpr HF
        go_wp2_with fail
        refine (fraction_any p third _).mono ?_
        rintro e w2 ⟨rfl, hbl2⟩
        generalize fracN p third = f at *
        obtain ⟨X, hX⟩ : ∃ X, f % 4294967296 = X := ⟨_, rfl⟩
        have hXi : (f : Int) % 4294967296 = (X : Int) := by omega
        rw [hX] at HF2
        clear hX
        have HB2 := Lib.hid (below_step hbl.out hbl2)
        have hWB : Below w.heap.size w (w2.alloc (.cells #[.int .u32 (X : Int)] 37)) := HB2.out.alloc HB2.out.size _
        have HWB := Lib.hid hWB
        have HSZ : Hid (w.heap.size ≤ (w2.alloc (.cells #[.int .u32 (X : Int)] 37)).heap.size) := Lib.hid hWB.size
        have HO : Hid (On .u32 (w2.alloc (.cells #[.int .u32 (X : Int)] 37)) w.heap.size 37 (.slice q L c) (fracs third k)) := Lib.hid ((ho.out.later hbl2).alloc _)
        have HN : Hid (Nw .u32 (w2.alloc (.cells #[.int .u32 (X : Int)] 37)) (some ⟨w2.heap.size, 0, none⟩) 1 [X]) := Lib.hid (nw_one w2 X 37)
        have HPN : Hid ((some (⟨w2.heap.size, 0, none⟩ : Addr)) = none → 1 = 0) := Lib.hid (by simp)
        have HLN : Hid ((fracs third k).length + 1 ≤ maxLen) := Lib.hid (by rw [HL.out]; unfold maxLen; omega)
        have HLB : Hid (((fracs third k).length + 1) * 4 ≤ 140737488355328) := Lib.hid (by rw [HL.out]; omega)
        clear hbl2 hWB
        go_wp2_with (refine wpList_append_nums rfl (.tmp 15) (.tmp 20) 33 37 rfl Tryd.underlying33 4 info32 w.heap.size _ _ rfl HO.out (some ⟨w2.heap.size, 0, none⟩) 1 1 [X] rfl HN.out HPN.out HLN.out HLB.out HSZ.out ?_; intro v3 w3 hob3 hg3; have HO3 := Lib.hid hob3; have HB3 := Lib.hid (below_new_on HWB.out HO.out hg3 HSZ.out); clear hob3 hg3)
        obtain ⟨p3, c3, hv3, _, _, _, _, _⟩ := HO3.out.open
        subst hv3
        have hpp := HP.out
        refine ⟨?_, by simp [intOf] <;> omega⟩
        first
          | exact ⟨k + 1, p3, _, c3, by omega, by have := HP.out; go_num, rfl, Lib.hid (by rw [HF2.out]; exact HO3.out), HB3⟩
          | ((repeat apply Exists.intro); refine ⟨?_, rfl⟩; exact ⟨k + 1, p3, _, c3, by omega, by have := HP.out; go_num, rfl, Lib.hid (by rw [HF2.out]; exact HO3.out), HB3⟩)
    · obtain rfl : k = K := by omega
      have hLn : L = n := by rw [← hL]; exact H1.out
      clear hL
      go_wp2
      go_ret
      exact ⟨_, rfl, ho.out, hbl.out⟩

theorem fracs17 : (fracs false 17).length = 7 := by decide +kernel
theorem fracs18 : fracs false 18 = hS.list := by decide +kernel
theorem fracs309 : (fracs true 309).length = 63 := by decide +kernel
set_option maxHeartbeats 8000000 in
set_option maxRecDepth 100000 in
theorem fracs310 : fracs true 310 = kS := by decide +kernel
theorem fractions_k (w : World) : Calls Tryd.prog 12 #[.int .i64 64, .bool true] w fun e w' => ∃ v, e = .returned v ∧ On .u32 w' w.heap.size 37 v kS ∧ Below w.heap.size w w' := by
  have h := fractions_any true 64 310 w (by omega) (by omega) (by rw [fracs310]; rfl) (fun k hk => by
    have h := fracs_mono true k (309 - k)
    rw [show k + (309 - k) = 309 by omega, fracs309] at h
    omega)
  rw [fracs310] at h
  exact h
theorem fractions_h (w : World) : Calls Tryd.prog 12 #[.int .i64 8, .bool false] w fun e w' => ∃ v, e = .returned v ∧ On .u32 w' w.heap.size 37 v hS.list ∧ Below w.heap.size w w' := by
  have h := fractions_any false 8 18 w (by omega) (by omega) (by rw [fracs18]; rfl) (fun k hk => by
    have h := fracs_mono false k (17 - k)
    rw [show k + (17 - k) = 17 by omega, fracs17] at h
    omega)
  rw [fracs18] at h
  exact h
end Go.Proofs.YtmhijcciblhjbaaDoor
