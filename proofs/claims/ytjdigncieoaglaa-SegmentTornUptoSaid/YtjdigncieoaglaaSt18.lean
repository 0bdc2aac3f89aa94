/- Layer 14, the reference: Right; Layer 14, the program: Right -/
import Derived.Test.YtjdigncieoaglaaSt11
import Derived.Test.YtjdigncieoaglaaSt17
set_option linter.unusedSimpArgs false
set_option linter.unusedVariables false
namespace Go.Proofs.Ytjdigncieoaglaa
set_option linter.unusedVariables false
open Go.RowKit Go.Lib

set_option maxRecDepth 100000 in
set_option maxHeartbeats 1000000 in
theorem rright_any (x : Rq) (w : World) (hd : x.dg.length = 32) (hx : x.da.length = x.n) (hn : x.nm.size ≤ 140737488355328) :
    Calls Try.prog 20 #[x.v] w fun e w' => e = .returned (.int .i64 (rightN x.rc)) ∧ Below w.heap.size w w' := by
  obtain ⟨wA, hA, _, hb, c0, c1, c34, c35, c36, c37⟩ := box_rec w x hd
  have HB := Lib.hid hb
  have HT := Lib.hid fun W => rtag_any x.nm W hn
  obtain ⟨R, hR⟩ : ∃ R, rightN x.rc = R := ⟨_, rfl⟩
  rw [hR]
  have HR : Hid (R = rightN x.rc) := Lib.hid hR.symm
  clear hR
  unfold rightN Rq.rc at HR
  dsimp only at HR
  rw [hx] at HR
  unfold Rq.v
  obtain ⟨k, s, dg, nm, p, n, c, da, N, Z⟩ := x
  dsimp only at *
  generalize mixC _ _ _ = M at *
  generalize tagP (numsOf nm) = tb at *
  clear hb hd hx hn c1
  rcases kinds (k := k) with h | h | rfl | rfl | rfl | rfl | rfl | rfl | rfl | rfl
  · replace HR : Hid (R = 2) := Lib.hid (by rw [HR.out, if_pos (Or.inl h)])
    clear c34 c35 c36 c37
    go_enter Try.func20, Try.ntmps20
    go_wp2
    go_ret
    exact ⟨by rw [HR.out]; rfl, HB.out⟩
  · have h1 : ¬ k < 1 := by omega
    replace HR : Hid (R = 2) := Lib.hid (by rw [HR.out, if_pos (Or.inr h)])
    clear c34 c35 c36 c37
    go_enter Try.func20, Try.ntmps20
    go_wp2
    go_ret
    exact ⟨by rw [HR.out]; rfl, HB.out⟩
  · clear c34 c36 c37
    by_cases h : (n : Int) > 65504
    · replace HR : Hid (R = 18) := Lib.hid (by rw [HR.out]; simp; omega)
      go_enter Try.func20, Try.ntmps20
      go_wp2
      go_ret
      exact ⟨by rw [HR.out]; rfl, HB.out⟩
    · replace HR : Hid (R = 0) := Lib.hid (by rw [HR.out]; simp; omega)
      go_enter Try.func20, Try.ntmps20
      go_wp2
      go_ret
      exact ⟨by rw [HR.out]; rfl, HB.out⟩
  · clear c34 c36 c37
    by_cases h : (n : Int) > 65504
    · replace HR : Hid (R = 18) := Lib.hid (by rw [HR.out]; simp; omega)
      go_enter Try.func20, Try.ntmps20
      go_wp2
      go_ret
      exact ⟨by rw [HR.out]; rfl, HB.out⟩
    · replace HR : Hid (R = 0) := Lib.hid (by rw [HR.out]; simp; omega)
      go_enter Try.func20, Try.ntmps20
      go_wp2
      go_ret
      exact ⟨by rw [HR.out]; rfl, HB.out⟩
  · clear c35 c36 c37
    cases tb
    · replace HR : Hid (R = 12) := Lib.hid (by rw [HR.out]; simp)
      go_enter Try.func20, Try.ntmps20
      go_wp2_with (go_at_call 30; refine (HT.out _).mono ?_; rintro e w1 ⟨rfl, rfl⟩)
      go_ret
      exact ⟨by rw [HR.out]; rfl, HB.out⟩
    · replace HR : Hid (R = 0) := Lib.hid (by rw [HR.out]; simp)
      go_enter Try.func20, Try.ntmps20
      go_wp2_with (go_at_call 30; refine (HT.out _).mono ?_; rintro e w1 ⟨rfl, rfl⟩)
      go_ret
      exact ⟨by rw [HR.out]; rfl, HB.out⟩
  · clear c35 c36 c37
    cases tb
    · replace HR : Hid (R = 12) := Lib.hid (by rw [HR.out]; simp)
      go_enter Try.func20, Try.ntmps20
      go_wp2_with (go_at_call 30; refine (HT.out _).mono ?_; rintro e w1 ⟨rfl, rfl⟩)
      go_ret
      exact ⟨by rw [HR.out]; rfl, HB.out⟩
    · replace HR : Hid (R = 0) := Lib.hid (by rw [HR.out]; simp)
      go_enter Try.func20, Try.ntmps20
      go_wp2_with (go_at_call 30; refine (HT.out _).mono ?_; rintro e w1 ⟨rfl, rfl⟩)
      go_ret
      exact ⟨by rw [HR.out]; rfl, HB.out⟩
  · replace HR : Hid (R = 0) := Lib.hid (by rw [HR.out]; simp)
    clear c34 c35 c36 c37
    go_enter Try.func20, Try.ntmps20
    go_wp2
    go_ret
    exact ⟨by rw [HR.out]; rfl, HB.out⟩
  · clear c34 c35
    by_cases h1 : N < 0
    · replace HR : Hid (R = 20) := Lib.hid (by rw [HR.out]; simp; omega)
      go_enter Try.func20, Try.ntmps20
      go_wp2
      go_ret
      exact ⟨by rw [HR.out]; rfl, HB.out⟩
    by_cases h2 : Z < 0
    · replace HR : Hid (R = 20) := Lib.hid (by rw [HR.out]; simp; omega)
      go_enter Try.func20, Try.ntmps20
      go_wp2
      go_ret
      exact ⟨by rw [HR.out]; rfl, HB.out⟩
    by_cases h3 : N ≥ 4294967296
    · replace HR : Hid (R = 20) := Lib.hid (by rw [HR.out]; simp; omega)
      go_enter Try.func20, Try.ntmps20
      go_wp2
      go_ret
      exact ⟨by rw [HR.out]; rfl, HB.out⟩
    by_cases h4 : Z ≥ 4294967296
    · replace HR : Hid (R = 20) := Lib.hid (by rw [HR.out]; simp; omega)
      go_enter Try.func20, Try.ntmps20
      go_wp2
      go_ret
      exact ⟨by rw [HR.out]; rfl, HB.out⟩
    · replace HR : Hid (R = 0) := Lib.hid (by rw [HR.out]; simp; omega)
      go_enter Try.func20, Try.ntmps20
      go_wp2
      go_ret
      exact ⟨by rw [HR.out]; rfl, HB.out⟩
  · clear c34 c35 c37
    by_cases h1 : N < 1
    · replace HR : Hid (R = 20) := Lib.hid (by rw [HR.out]; simp; omega)
      go_enter Try.func20, Try.ntmps20
      go_wp2
      go_ret
      exact ⟨by rw [HR.out]; rfl, HB.out⟩
    by_cases h2 : N > 99999999
    · replace HR : Hid (R = 20) := Lib.hid (by rw [HR.out]; simp; omega)
      go_enter Try.func20, Try.ntmps20
      go_wp2
      go_ret
      exact ⟨by rw [HR.out]; rfl, HB.out⟩
    · replace HR : Hid (R = 0) := Lib.hid (by rw [HR.out]; simp; omega)
      go_enter Try.func20, Try.ntmps20
      go_wp2
      go_ret
      exact ⟨by rw [HR.out]; rfl, HB.out⟩
  · clear c34 c35
    by_cases h1 : N < 0
    · replace HR : Hid (R = 20) := Lib.hid (by rw [HR.out]; simp; omega)
      go_enter Try.func20, Try.ntmps20
      go_wp2
      go_ret
      exact ⟨by rw [HR.out]; rfl, HB.out⟩
    by_cases h2 : Z < 0
    · replace HR : Hid (R = 20) := Lib.hid (by rw [HR.out]; simp; omega)
      go_enter Try.func20, Try.ntmps20
      go_wp2
      go_ret
      exact ⟨by rw [HR.out]; rfl, HB.out⟩
    by_cases h3 : N ≥ 4294967296
    · replace HR : Hid (R = 20) := Lib.hid (by rw [HR.out]; simp; omega)
      go_enter Try.func20, Try.ntmps20
      go_wp2
      go_ret
      exact ⟨by rw [HR.out]; rfl, HB.out⟩
    by_cases h4 : Z ≥ 4294967296
    · replace HR : Hid (R = 20) := Lib.hid (by rw [HR.out]; simp; omega)
      go_enter Try.func20, Try.ntmps20
      go_wp2
      go_ret
      exact ⟨by rw [HR.out]; rfl, HB.out⟩
    · replace HR : Hid (R = 0) := Lib.hid (by rw [HR.out]; simp; omega)
      go_enter Try.func20, Try.ntmps20
      go_wp2
      go_ret
      exact ⟨by rw [HR.out]; rfl, HB.out⟩
end Go.Proofs.Ytjdigncieoaglaa

namespace Go.Proofs.Ytjdigncieoaglaa
set_option linter.unusedVariables false
open Go.RowKit Go.Lib

theorem unless_any (b : Bool) (e : Int) (w : World) : Calls Try.prog 46 #[.bool b, .int .i64 e] w fun x w' => x = .returned (.int .i64 (if b = true then 0 else e)) ∧ w = w' := by
  cases b
  · go_enter Try.func46, Try.ntmps46
    go_wp2
    go_ret
    exact ⟨rfl, rfl⟩
  · go_enter Try.func46, Try.ntmps46
    go_wp2
    go_ret
    exact ⟨rfl, rfl⟩
def cntB (n : Int) : Bool := decide (0 ≤ n ∧ n ≤ 4294967295)
theorem isCount_any (n : Int) (w : World) : Calls Try.prog 48 #[.int .i64 n] w fun x w' => x = .returned (.bool (cntB n)) ∧ w = w' := by
  by_cases h0 : n ≥ 0
  · by_cases h1 : n ≤ 4294967295
    · have HR : Hid (cntB n = true) := Lib.hid (decide_eq_true ⟨h0, h1⟩)
      go_enter Try.func48, Try.ntmps48
      go_wp2
      go_ret
      exact ⟨by rw [HR.out]; rfl, rfl⟩
    · have HR : Hid (cntB n = false) := Lib.hid (decide_eq_false fun h => h1 h.2)
      go_enter Try.func48, Try.ntmps48
      go_wp2
      go_ret
      exact ⟨by rw [HR.out]; rfl, rfl⟩
  · have HR : Hid (cntB n = false) := Lib.hid (decide_eq_false fun h => h0 h.1)
    go_enter Try.func48, Try.ntmps48
    go_wp2
    go_ret
    exact ⟨by rw [HR.out]; rfl, rfl⟩

set_option maxRecDepth 100000 in
set_option maxHeartbeats 1000000 in
theorem right_any (x : Rq) (w : World) (hf : x.Fit w) : Calls Try.prog 33 #[x.v] w fun e w' => e = .returned (.int .i64 (rightN x.rc)) ∧ Below w.heap.size w w' := by
  have hd := hf.dg.1
  have hx := hf.bs.len
  have hn := hf.nm
  obtain ⟨wA, hA, _, hb, c0, c1, c34, c35, c36, c37⟩ := box_rec w x hd
  have HB := Lib.hid hb
  have HT := Lib.hid fun W => ntag_any x.nm W hn
  obtain ⟨R, hR⟩ : ∃ R, rightN x.rc = R := ⟨_, rfl⟩
  rw [hR]
  have HR : Hid (R = rightN x.rc) := Lib.hid hR.symm
  clear hR
  unfold rightN Rq.rc at HR
  dsimp only at HR
  rw [hx] at HR
  unfold Rq.v
  obtain ⟨k, s, dg, nm, p, n, c, da, N, Z⟩ := x
  dsimp only at *
  generalize mixC _ _ _ = M at *
  generalize tagP (numsOf nm) = tb at *
  clear hb hd hx hn c1 hf
  rcases kinds (k := k) with h | h | rfl | rfl | rfl | rfl | rfl | rfl | rfl | rfl
  · replace HR : Hid (R = 2) := Lib.hid (by rw [HR.out, if_pos (Or.inl h)])
    clear c34 c35 c36 c37
    have n1 : (k == 1) = false := by simp; omega
    have n2 : (k == 2) = false := by simp; omega
    have n3 : (k == 3) = false := by simp; omega
    have n4 : (k == 4) = false := by simp; omega
    have n5 : (k == 5) = false := by simp; omega
    have n6 : (k == 6) = false := by simp; omega
    have n7 : (k == 7) = false := by simp; omega
    have n8 : (k == 8) = false := by simp; omega
    clear h
    go_enter Try.func33, Try.ntmps33
    go_wp2
    go_ret
    exact ⟨by rw [HR.out]; rfl, HB.out⟩
  · replace HR : Hid (R = 2) := Lib.hid (by rw [HR.out, if_pos (Or.inr h)])
    clear c34 c35 c36 c37
    have n1 : (k == 1) = false := by simp; omega
    have n2 : (k == 2) = false := by simp; omega
    have n3 : (k == 3) = false := by simp; omega
    have n4 : (k == 4) = false := by simp; omega
    have n5 : (k == 5) = false := by simp; omega
    have n6 : (k == 6) = false := by simp; omega
    have n7 : (k == 7) = false := by simp; omega
    have n8 : (k == 8) = false := by simp; omega
    clear h
    go_enter Try.func33, Try.ntmps33
    go_wp2
    go_ret
    exact ⟨by rw [HR.out]; rfl, HB.out⟩
  · clear c34 c36 c37
    by_cases h : (n : Int) ≤ 65504
    · replace HR : Hid (R = 0) := Lib.hid (by rw [HR.out]; simp; omega)
      go_enter Try.func33, Try.ntmps33
      go_wp2_with (first | (go_at_call 46; refine (unless_any _ _ _).mono ?_; rintro e wu ⟨rfl, rfl⟩))
      go_ret
      exact ⟨by rw [HR.out]; rfl, HB.out⟩
    · replace HR : Hid (R = 18) := Lib.hid (by rw [HR.out]; simp; omega)
      go_enter Try.func33, Try.ntmps33
      go_wp2_with (first | (go_at_call 46; refine (unless_any _ _ _).mono ?_; rintro e wu ⟨rfl, rfl⟩))
      go_ret
      exact ⟨by rw [HR.out]; rfl, HB.out⟩
  · clear c34 c36 c37
    by_cases h : (n : Int) ≤ 65504
    · replace HR : Hid (R = 0) := Lib.hid (by rw [HR.out]; simp; omega)
      go_enter Try.func33, Try.ntmps33
      go_wp2_with (first | (go_at_call 46; refine (unless_any _ _ _).mono ?_; rintro e wu ⟨rfl, rfl⟩))
      go_ret
      exact ⟨by rw [HR.out]; rfl, HB.out⟩
    · replace HR : Hid (R = 18) := Lib.hid (by rw [HR.out]; simp; omega)
      go_enter Try.func33, Try.ntmps33
      go_wp2_with (first | (go_at_call 46; refine (unless_any _ _ _).mono ?_; rintro e wu ⟨rfl, rfl⟩))
      go_ret
      exact ⟨by rw [HR.out]; rfl, HB.out⟩
  · clear c35 c36 c37
    cases tb
    · replace HR : Hid (R = 12) := Lib.hid (by rw [HR.out]; simp)
      go_enter Try.func33, Try.ntmps33
      go_wp2_with (first | (go_at_call 46; refine (unless_any _ _ _).mono ?_; rintro e wu ⟨rfl, rfl⟩) | (go_at_call 47; refine (HT.out _).mono ?_; rintro e w1 ⟨rfl, hb1⟩; have HB1 := Lib.hid (below_step HB.out hb1); clear hb1))
      go_ret
      exact ⟨by rw [HR.out]; rfl, HB1.out⟩
    · replace HR : Hid (R = 0) := Lib.hid (by rw [HR.out]; simp)
      go_enter Try.func33, Try.ntmps33
      go_wp2_with (first | (go_at_call 46; refine (unless_any _ _ _).mono ?_; rintro e wu ⟨rfl, rfl⟩) | (go_at_call 47; refine (HT.out _).mono ?_; rintro e w1 ⟨rfl, hb1⟩; have HB1 := Lib.hid (below_step HB.out hb1); clear hb1))
      go_ret
      exact ⟨by rw [HR.out]; rfl, HB1.out⟩
  · clear c35 c36 c37
    cases tb
    · replace HR : Hid (R = 12) := Lib.hid (by rw [HR.out]; simp)
      go_enter Try.func33, Try.ntmps33
      go_wp2_with (first | (go_at_call 46; refine (unless_any _ _ _).mono ?_; rintro e wu ⟨rfl, rfl⟩) | (go_at_call 47; refine (HT.out _).mono ?_; rintro e w1 ⟨rfl, hb1⟩; have HB1 := Lib.hid (below_step HB.out hb1); clear hb1))
      go_ret
      exact ⟨by rw [HR.out]; rfl, HB1.out⟩
    · replace HR : Hid (R = 0) := Lib.hid (by rw [HR.out]; simp)
      go_enter Try.func33, Try.ntmps33
      go_wp2_with (first | (go_at_call 46; refine (unless_any _ _ _).mono ?_; rintro e wu ⟨rfl, rfl⟩) | (go_at_call 47; refine (HT.out _).mono ?_; rintro e w1 ⟨rfl, hb1⟩; have HB1 := Lib.hid (below_step HB.out hb1); clear hb1))
      go_ret
      exact ⟨by rw [HR.out]; rfl, HB1.out⟩
  · clear c34 c35 c36 c37
    replace HR : Hid (R = 0) := Lib.hid (by rw [HR.out]; simp)
    go_enter Try.func33, Try.ntmps33
    go_wp2
    go_ret
    exact ⟨by rw [HR.out]; rfl, HB.out⟩
  · clear c34 c35
    by_cases h1 : 0 ≤ N ∧ N ≤ 4294967295
    · have d1 : cntB N = true := decide_eq_true h1
      by_cases h2 : 0 ≤ Z ∧ Z ≤ 4294967295
      · have d2 : cntB Z = true := decide_eq_true h2
        replace HR : Hid (R = 0) := Lib.hid (by rw [HR.out]; simp; omega)
        clear h1 h2
        go_enter Try.func33, Try.ntmps33
        go_wp2_with (first | (go_at_call 46; refine (unless_any _ _ _).mono ?_; rintro e wu ⟨rfl, rfl⟩) | (go_at_call 48; refine (isCount_any _ _).mono ?_; rintro e wc ⟨rfl, rfl⟩; first | rw [d1] | rw [d2]))
        go_ret
        exact ⟨by rw [HR.out]; rfl, HB.out⟩
      · have d2 : cntB Z = false := decide_eq_false h2
        replace HR : Hid (R = 20) := Lib.hid (by rw [HR.out]; simp; omega)
        clear h1 h2
        go_enter Try.func33, Try.ntmps33
        go_wp2_with (first | (go_at_call 46; refine (unless_any _ _ _).mono ?_; rintro e wu ⟨rfl, rfl⟩) | (go_at_call 48; refine (isCount_any _ _).mono ?_; rintro e wc ⟨rfl, rfl⟩; first | rw [d1] | rw [d2]))
        go_ret
        exact ⟨by rw [HR.out]; rfl, HB.out⟩
    · have d1 : cntB N = false := decide_eq_false h1
      replace HR : Hid (R = 20) := Lib.hid (by rw [HR.out]; simp; omega)
      clear h1
      go_enter Try.func33, Try.ntmps33
      go_wp2_with (first | (go_at_call 46; refine (unless_any _ _ _).mono ?_; rintro e wu ⟨rfl, rfl⟩) | (go_at_call 48; refine (isCount_any _ _).mono ?_; rintro e wc ⟨rfl, rfl⟩; first | rw [d1] | rw [d2]))
      go_ret
      exact ⟨by rw [HR.out]; rfl, HB.out⟩
  · clear c34 c35 c37
    by_cases h1 : N ≥ 1
    · by_cases h2 : N ≤ 99999999
      · replace HR : Hid (R = 0) := Lib.hid (by rw [HR.out]; simp; omega)
        go_enter Try.func33, Try.ntmps33
        go_wp2_with (first | (go_at_call 46; refine (unless_any _ _ _).mono ?_; rintro e wu ⟨rfl, rfl⟩))
        go_ret
        exact ⟨by rw [HR.out]; rfl, HB.out⟩
      · replace HR : Hid (R = 20) := Lib.hid (by rw [HR.out]; simp; omega)
        go_enter Try.func33, Try.ntmps33
        go_wp2_with (first | (go_at_call 46; refine (unless_any _ _ _).mono ?_; rintro e wu ⟨rfl, rfl⟩))
        go_ret
        exact ⟨by rw [HR.out]; rfl, HB.out⟩
    · replace HR : Hid (R = 20) := Lib.hid (by rw [HR.out]; simp; omega)
      go_enter Try.func33, Try.ntmps33
      go_wp2_with (first | (go_at_call 46; refine (unless_any _ _ _).mono ?_; rintro e wu ⟨rfl, rfl⟩))
      go_ret
      exact ⟨by rw [HR.out]; rfl, HB.out⟩
  · clear c34 c35
    by_cases h1 : 0 ≤ N ∧ N ≤ 4294967295
    · have d1 : cntB N = true := decide_eq_true h1
      by_cases h2 : 0 ≤ Z ∧ Z ≤ 4294967295
      · have d2 : cntB Z = true := decide_eq_true h2
        replace HR : Hid (R = 0) := Lib.hid (by rw [HR.out]; simp; omega)
        clear h1 h2
        go_enter Try.func33, Try.ntmps33
        go_wp2_with (first | (go_at_call 46; refine (unless_any _ _ _).mono ?_; rintro e wu ⟨rfl, rfl⟩) | (go_at_call 48; refine (isCount_any _ _).mono ?_; rintro e wc ⟨rfl, rfl⟩; first | rw [d1] | rw [d2]))
        go_ret
        exact ⟨by rw [HR.out]; rfl, HB.out⟩
      · have d2 : cntB Z = false := decide_eq_false h2
        replace HR : Hid (R = 20) := Lib.hid (by rw [HR.out]; simp; omega)
        clear h1 h2
        go_enter Try.func33, Try.ntmps33
        go_wp2_with (first | (go_at_call 46; refine (unless_any _ _ _).mono ?_; rintro e wu ⟨rfl, rfl⟩) | (go_at_call 48; refine (isCount_any _ _).mono ?_; rintro e wc ⟨rfl, rfl⟩; first | rw [d1] | rw [d2]))
        go_ret
        exact ⟨by rw [HR.out]; rfl, HB.out⟩
    · have d1 : cntB N = false := decide_eq_false h1
      replace HR : Hid (R = 20) := Lib.hid (by rw [HR.out]; simp; omega)
      clear h1
      go_enter Try.func33, Try.ntmps33
      go_wp2_with (first | (go_at_call 46; refine (unless_any _ _ _).mono ?_; rintro e wu ⟨rfl, rfl⟩) | (go_at_call 48; refine (isCount_any _ _).mono ?_; rintro e wc ⟨rfl, rfl⟩; first | rw [d1] | rw [d2]))
      go_ret
      exact ⟨by rw [HR.out]; rfl, HB.out⟩
theorem cright_ok : cRightOk := fun x w hf _ => right_any x w hf
end Go.Proofs.Ytjdigncieoaglaa
