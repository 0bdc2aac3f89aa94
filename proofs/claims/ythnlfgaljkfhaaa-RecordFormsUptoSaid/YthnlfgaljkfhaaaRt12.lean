/- Layer 14, the reference: Right -/
import Derived.Test.YthnlfgaljkfhaaaRt10
import Derived.Test.YthnlfgaljkfhaaaRt11
set_option linter.unusedSimpArgs false
set_option linter.unusedVariables false
namespace Go.Proofs.Ythnlfgaljkfhaaa
set_option linter.unusedVariables false
open Go.RowKit Go.Lib

theorem kinds {k : Int} : k < 1 ∨ k > 8 ∨ k = 1 ∨ k = 2 ∨ k = 3 ∨ k = 4 ∨ k = 5 ∨ k = 6 ∨ k = 7 ∨ k = 8 := by omega
/-- what a call that boxes a record finds -/
theorem box_rec (w : World) (x : Rq) (hd : x.dg.length = 32) : ∃ wA, w.alloc (.cells (mixC x.a x.dg x.z) 27) = wA ∧ Rm wA w.heap.size x ∧ Below w.heap.size w wA ∧
    (wA.cell? ⟨w.heap.size, 0, none⟩ = some (.int .i64 x.k) ∧ wA.cell? ⟨w.heap.size, 1, none⟩ = some (.int .u64 x.s) ∧ wA.cell? ⟨w.heap.size, 34, none⟩ = some (.string x.nm) ∧ wA.cell? ⟨w.heap.size, 35, none⟩ = some (.slice x.p x.n x.c) ∧ wA.cell? ⟨w.heap.size, 36, none⟩ = some (.int .i64 x.N) ∧ wA.cell? ⟨w.heap.size, 37, none⟩ = some (.int .i64 x.Z)) :=
  ⟨_, rfl, Rm.new w x, (Below.refl _ _).alloc (Nat.le_refl _) _, (Rm.new w x).cells hd⟩

set_option maxRecDepth 100000 in
set_option maxHeartbeats 1000000 in
theorem rright_any (x : Rq) (w : World) (hd : x.dg.length = 32) (hx : x.da.length = x.n) (hn : x.nm.size ≤ 140737488355328) :
    Calls Try.prog 11 #[x.v] w fun e w' => e = .returned (.int .i64 (rightN x.rc)) ∧ Below w.heap.size w w' := by
  obtain ⟨wA, hA, _, hb, c0, c1, c34, c35, c36, c37⟩ := box_rec w x hd
  have HB := Lib.hid hb
  have HT := Lib.hid fun W => rtag_any x.nm W hn
  obtain ⟨R, hR⟩ : ∃ R, rightN x.rc = R := ⟨_, rfl⟩
  rw [hR]
  have HR : Hid (R = rightN x.rc) := Lib.hid hR.symm
  clear hR
  unfold rightN Rq.rc at HR
  dsimp only at HR
  rw [hx] at HR
  unfold Rq.v
  obtain ⟨k, s, dg, nm, p, n, c, da, N, Z⟩ := x
  dsimp only at *
  generalize mixC _ _ _ = M at *
  generalize tagP (numsOf nm) = tb at *
  clear hb hd hx hn c1
  rcases kinds (k := k) with h | h | rfl | rfl | rfl | rfl | rfl | rfl | rfl | rfl
  · replace HR : Hid (R = 2) := Lib.hid (by rw [HR.out, if_pos (Or.inl h)])
    clear c34 c35 c36 c37
    go_enter Try.func11, Try.ntmps11
    go_wp2
    go_ret
    exact ⟨by rw [HR.out]; rfl, HB.out⟩
  · have h1 : ¬ k < 1 := by omega
    replace HR : Hid (R = 2) := Lib.hid (by rw [HR.out, if_pos (Or.inr h)])
    clear c34 c35 c36 c37
    go_enter Try.func11, Try.ntmps11
    go_wp2
    go_ret
    exact ⟨by rw [HR.out]; rfl, HB.out⟩
  · clear c34 c36 c37
    by_cases h : (n : Int) > 65504
    · replace HR : Hid (R = 18) := Lib.hid (by rw [HR.out]; simp; omega)
      go_enter Try.func11, Try.ntmps11
      go_wp2
      go_ret
      exact ⟨by rw [HR.out]; rfl, HB.out⟩
    · replace HR : Hid (R = 0) := Lib.hid (by rw [HR.out]; simp; omega)
      go_enter Try.func11, Try.ntmps11
      go_wp2
      go_ret
      exact ⟨by rw [HR.out]; rfl, HB.out⟩
  · clear c34 c36 c37
    by_cases h : (n : Int) > 65504
    · replace HR : Hid (R = 18) := Lib.hid (by rw [HR.out]; simp; omega)
      go_enter Try.func11, Try.ntmps11
      go_wp2
      go_ret
      exact ⟨by rw [HR.out]; rfl, HB.out⟩
    · replace HR : Hid (R = 0) := Lib.hid (by rw [HR.out]; simp; omega)
      go_enter Try.func11, Try.ntmps11
      go_wp2
      go_ret
      exact ⟨by rw [HR.out]; rfl, HB.out⟩
  · clear c35 c36 c37
    cases tb
    · replace HR : Hid (R = 12) := Lib.hid (by rw [HR.out]; simp)
      go_enter Try.func11, Try.ntmps11
      go_wp2_with (go_at_call 28; refine (HT.out _).mono ?_; rintro e w1 ⟨rfl, rfl⟩)
      go_ret
      exact ⟨by rw [HR.out]; rfl, HB.out⟩
    · replace HR : Hid (R = 0) := Lib.hid (by rw [HR.out]; simp)
      go_enter Try.func11, Try.ntmps11
      go_wp2_with (go_at_call 28; refine (HT.out _).mono ?_; rintro e w1 ⟨rfl, rfl⟩)
      go_ret
      exact ⟨by rw [HR.out]; rfl, HB.out⟩
  · clear c35 c36 c37
    cases tb
    · replace HR : Hid (R = 12) := Lib.hid (by rw [HR.out]; simp)
      go_enter Try.func11, Try.ntmps11
      go_wp2_with (go_at_call 28; refine (HT.out _).mono ?_; rintro e w1 ⟨rfl, rfl⟩)
      go_ret
      exact ⟨by rw [HR.out]; rfl, HB.out⟩
    · replace HR : Hid (R = 0) := Lib.hid (by rw [HR.out]; simp)
      go_enter Try.func11, Try.ntmps11
      go_wp2_with (go_at_call 28; refine (HT.out _).mono ?_; rintro e w1 ⟨rfl, rfl⟩)
      go_ret
      exact ⟨by rw [HR.out]; rfl, HB.out⟩
  · replace HR : Hid (R = 0) := Lib.hid (by rw [HR.out]; simp)
    clear c34 c35 c36 c37
    go_enter Try.func11, Try.ntmps11
    go_wp2
    go_ret
    exact ⟨by rw [HR.out]; rfl, HB.out⟩
  · clear c34 c35
    by_cases h1 : N < 0
    · replace HR : Hid (R = 20) := Lib.hid (by rw [HR.out]; simp; omega)
      go_enter Try.func11, Try.ntmps11
      go_wp2
      go_ret
      exact ⟨by rw [HR.out]; rfl, HB.out⟩
    by_cases h2 : Z < 0
    · replace HR : Hid (R = 20) := Lib.hid (by rw [HR.out]; simp; omega)
      go_enter Try.func11, Try.ntmps11
      go_wp2
      go_ret
      exact ⟨by rw [HR.out]; rfl, HB.out⟩
    by_cases h3 : N ≥ 4294967296
    · replace HR : Hid (R = 20) := Lib.hid (by rw [HR.out]; simp; omega)
      go_enter Try.func11, Try.ntmps11
      go_wp2
      go_ret
      exact ⟨by rw [HR.out]; rfl, HB.out⟩
    by_cases h4 : Z ≥ 4294967296
    · replace HR : Hid (R = 20) := Lib.hid (by rw [HR.out]; simp; omega)
      go_enter Try.func11, Try.ntmps11
      go_wp2
      go_ret
      exact ⟨by rw [HR.out]; rfl, HB.out⟩
    · replace HR : Hid (R = 0) := Lib.hid (by rw [HR.out]; simp; omega)
      go_enter Try.func11, Try.ntmps11
      go_wp2
      go_ret
      exact ⟨by rw [HR.out]; rfl, HB.out⟩
  · clear c34 c35 c37
    by_cases h1 : N < 1
    · replace HR : Hid (R = 20) := Lib.hid (by rw [HR.out]; simp; omega)
      go_enter Try.func11, Try.ntmps11
      go_wp2
      go_ret
      exact ⟨by rw [HR.out]; rfl, HB.out⟩
    by_cases h2 : N > 99999999
    · replace HR : Hid (R = 20) := Lib.hid (by rw [HR.out]; simp; omega)
      go_enter Try.func11, Try.ntmps11
      go_wp2
      go_ret
      exact ⟨by rw [HR.out]; rfl, HB.out⟩
    · replace HR : Hid (R = 0) := Lib.hid (by rw [HR.out]; simp; omega)
      go_enter Try.func11, Try.ntmps11
      go_wp2
      go_ret
      exact ⟨by rw [HR.out]; rfl, HB.out⟩
  · clear c34 c35
    by_cases h1 : N < 0
    · replace HR : Hid (R = 20) := Lib.hid (by rw [HR.out]; simp; omega)
      go_enter Try.func11, Try.ntmps11
      go_wp2
      go_ret
      exact ⟨by rw [HR.out]; rfl, HB.out⟩
    by_cases h2 : Z < 0
    · replace HR : Hid (R = 20) := Lib.hid (by rw [HR.out]; simp; omega)
      go_enter Try.func11, Try.ntmps11
      go_wp2
      go_ret
      exact ⟨by rw [HR.out]; rfl, HB.out⟩
    by_cases h3 : N ≥ 4294967296
    · replace HR : Hid (R = 20) := Lib.hid (by rw [HR.out]; simp; omega)
      go_enter Try.func11, Try.ntmps11
      go_wp2
      go_ret
      exact ⟨by rw [HR.out]; rfl, HB.out⟩
    by_cases h4 : Z ≥ 4294967296
    · replace HR : Hid (R = 20) := Lib.hid (by rw [HR.out]; simp; omega)
      go_enter Try.func11, Try.ntmps11
      go_wp2
      go_ret
      exact ⟨by rw [HR.out]; rfl, HB.out⟩
    · replace HR : Hid (R = 0) := Lib.hid (by rw [HR.out]; simp; omega)
      go_enter Try.func11, Try.ntmps11
      go_wp2
      go_ret
      exact ⟨by rw [HR.out]; rfl, HB.out⟩
end Go.Proofs.Ythnlfgaljkfhaaa
