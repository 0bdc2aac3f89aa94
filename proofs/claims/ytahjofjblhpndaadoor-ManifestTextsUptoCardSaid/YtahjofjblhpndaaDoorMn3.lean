/- Facts on uint8, for layers without the reference's Same; Walks of the reference of layer 1: Same -/
import Derived.Test.YtahjofjblhpndaaDoorMn2
import Derived.Laws.Rows
set_option linter.unusedSimpArgs false
set_option linter.unusedVariables false
namespace Go.Proofs.YtahjofjblhpndaaDoor
set_option linter.unusedVariables false
open Go.RowKit Go.Lib
theorem info8 : (Tryd.prog.info? 5).map (fun i => (i.zero, i.size, i.bytes)) = some (some (.int .u8 0), 1, 1) := by kernel_rfl
theorem size8 : (Tryd.prog.info? 5).map (·.size) = some 1 := by kernel_rfl
theorem cells8 : Tryd.prog.cellsOf 5 = 1 := by kernel_rfl
theorem bs_lit_fr (w : World) (e : TypeId) (cs : Array Value) (fr : Nat × Nat) (xs : List Int) (n : Nat) (hn : xs.length = n) (hx : ∀ j, 0 ≤ xs.getD j 0 ∧ xs.getD j 0 < 256) (hcs : cs.toList = xs.map (Value.int .u8)) :
    Bs (w.alloc (.cells cs e fr)) (some ⟨w.heap.size, 0, none⟩) n xs := by
  refine ⟨hn, hx, Or.inr ⟨w.heap.size, 0, rfl, fun j hj => ?_⟩⟩
  rw [Nat.zero_add, cell_of_row _ _ _ cs e fr (heap_alloc_new _ _), ← Array.getElem?_toList, hcs]
  have : j < xs.length := by omega
  simp [List.getD_eq_getElem?_getD, this]
end Go.Proofs.YtahjofjblhpndaaDoor

namespace Go.Proofs.YtahjofjblhpndaaDoor
set_option linter.unusedVariables false
open Go.RowKit Go.Lib


theorem same_len (p q : Option Addr) (n m c d : Nat) (w : World) (hn : n ≤ maxLen) (hm : m ≤ maxLen) (hne : n ≠ m) :
    Calls Tryd.prog 8 #[.slice p n c, .slice q m d] w fun e w' => e = .returned (.bool false) ∧ w = w' := by
  unfold maxLen at hn hm
  have e1 : (((n : Nat) : Int) != (m : Int)) = true := by rw [bne_iff_ne]; omega
  go_enter Tryd.func8, Tryd.ntmps8
  go_wp2
  go_ret
  exact ⟨rfl, rfl⟩

theorem same_walk (b off b2 off2 n c d : Nat) (xs ys : List Int) (w : World) (hn : n ≤ maxLen) (hxl : n = xs.length) (hyl : n = ys.length)
    (hx : ∀ j, j < n → w.cell? ⟨b, off + j, none⟩ = some (.int .u8 (xs.getD j 0))) (hy : ∀ j, j < n → w.cell? ⟨b2, off2 + j, none⟩ = some (.int .u8 (ys.getD j 0))) :
    Calls Tryd.prog 8 #[.slice (some ⟨b, off, none⟩) n c, .slice (some ⟨b2, off2, none⟩) n d] w fun e w' => e = .returned (.bool (decide (xs = ys))) ∧ ∃ q, w' = w.drewN q := by
  unfold maxLen at hn
  have HX := Lib.hid hxl
  have HY := Lib.hid hyl
  clear hxl hyl
  have e1 : (((n : Nat) : Int) != (n : Int)) = false := by simp
  go_enter Tryd.func8, Tryd.ntmps8
  go_wp2
  go_loopw [5] (fun i wr => ∃ k : Nat, k ≤ n ∧ i = .int .i64 k ∧ xs.take k = ys.take k ∧ ∃ q, wr = w.drewN q) (fun i _ => n - (intOf i).toNat)
  case atStart => exact ⟨0, Nat.zero_le _, rfl, rfl, 0, rfl⟩
  case round =>
    obtain ⟨k, hk, rfl, hpre, q, rfl⟩ := hrel
    by_cases hlt : k < n
    · have h1 := hx k hlt
      have h2 := hy k hlt
      go_wp2
      go_quiet (fail)
      go_wp2
      · have hne : (xs[k]?.getD 0 != ys[k]?.getD 0) = true := by assumption
        go_ret
        refine ⟨ret_bool ?_, _, World.drewN_drewN _ _ _⟩
        have : xs ≠ ys := fun e => by rw [e] at hne; simp at hne
        simpa using this
      · have heq : (xs[k]?.getD 0 != ys[k]?.getD 0) = false := by assumption
        refine ⟨⟨k + 1, by omega, by go_num, ?_, _, rfl⟩, by simp [intOf]; omega⟩
        exact take_step (by rw [← HX.out]; exact hlt) (by rw [← HY.out]; exact hlt) hpre (by simpa using heq)
    · have e : k = n := by omega
      subst e
      go_wp2
      go_ret
      have e2 : xs = ys := by rw [HX.out, List.take_length] at hpre; rw [hpre, ← HX.out, HY.out, List.take_length]
      exact ⟨ret_bool (by simpa using e2), q, rfl⟩

theorem same_any (p q : Option Addr) (n m c d : Nat) (xs ys : List Int) (w : World) (hn : n ≤ maxLen) (hm : m ≤ maxLen) (hx : Bs w p n xs) (hy : Bs w q m ys) :
    Calls Tryd.prog 8 #[.slice p n c, .slice q m d] w fun e w' => e = .returned (.bool (decide (xs = ys))) ∧ ∃ q, w' = w.drewN q := by
  obtain ⟨x1, _, x3⟩ := hx
  obtain ⟨y1, _, y3⟩ := hy
  by_cases hne : n = m
  · subst hne
    by_cases h0 : n = 0
    · subst h0
      obtain rfl : xs = [] := List.length_eq_zero_iff.1 x1
      obtain rfl : ys = [] := List.length_eq_zero_iff.1 y1
      have e0 : decide (([] : List Int) = []) = true := by simp
      rw [e0]
      clear hn hm x1 y1 x3 y3 e0
      have e1 : (((0 : Nat) : Int) != ((0 : Nat) : Int)) = false := by simp
      go_enter Tryd.func8, Tryd.ntmps8
      go_wp2
      go_loopw [5] (fun i wr => i = .int .i64 0 ∧ w = wr) (fun i _ => 0)
      case atStart => exact ⟨rfl, rfl⟩
      case round =>
        obtain ⟨rfl, rfl⟩ := hrel
        go_wp2
        go_ret
        exact ⟨rfl, 0, rfl⟩
    · rcases x3 with h1 | ⟨b, off, rfl, hc⟩
      · exact absurd h1 h0
      rcases y3 with h1 | ⟨b2, off2, rfl, hd⟩
      · exact absurd h1 h0
      exact same_walk b off b2 off2 n c d xs ys w hn x1.symm y1.symm hc hd
  · have e0 : decide (xs = ys) = false := by
      simp only [decide_eq_false_iff_not]
      intro e; apply hne; rw [← x1, ← y1, e]
    rw [e0]
    exact (same_len p q n m c d w hn hm hne).mono fun e w' ⟨h1, h2⟩ => ⟨h1, 0, h2.symm⟩
end Go.Proofs.YtahjofjblhpndaaDoor
