/- Layer 11, the reference: Names, Ints, Same: of equal rows they answer true. -/
import Derived.Test.YtebkpjnnmlccmaaFolC
import Derived.Laws.StructEq
import Derived.Laws.Cover1
namespace Go.Proofs.Ytebkpjnnmlccmaa
set_option linter.unusedVariables false
open Go.RowKit Go.Lib

theorem nd_eq (a : ByteArray) (i : Int) (W : World) : (Op.equalIn 10000 48 (.agg #[.string a, .int .i64 i]) (.agg #[.string a, .int .i64 i])).run Try.prog W = .ok true W := by
  have u0 := Try.underlying9
  have a0 := Try.isAgg9
  have z0 := Try.sizeOf9
  have u3 := Try.underlying3
  have a3 := Try.isAgg3
  have z3 := Try.sizeOf3
  have hS : Try.prog.underlying 48 = some (.struct (Try.prog.fieldsOf 48)) := by kernel_rfl
  have hp : Try.prog.stoodInHeld 48 = false := by kernel_rfl
  rw [show (10000 : Nat) = 9999 + 1 from rfl, run_equalIn_agg W 9999 48 _ _ hS hp]
  simp only [Program.fieldsOf, Try.underlying48]
  go_simp
theorem cg_eq (k i : Int) (a b : ByteArray) (W : World) : (Op.equalIn 10000 27 (.agg #[.int .i64 k, .string a, .string b, .int .i64 i]) (.agg #[.int .i64 k, .string a, .string b, .int .i64 i])).run Try.prog W = .ok true W := by
  have u0 := Try.underlying9
  have a0 := Try.isAgg9
  have z0 := Try.sizeOf9
  have u3 := Try.underlying3
  have a3 := Try.isAgg3
  have z3 := Try.sizeOf3
  have hS : Try.prog.underlying 27 = some (.struct (Try.prog.fieldsOf 27)) := by kernel_rfl
  have hp : Try.prog.stoodInHeld 27 = false := by kernel_rfl
  rw [show (10000 : Nat) = 9999 + 1 from rfl, run_equalIn_agg W 9999 27 _ _ hS hp]
  simp only [Program.fieldsOf, Try.underlying27]
  go_simp

set_option maxRecDepth 100000 in
theorem rnames_any (p q : Option Addr) (n c m d : Nat) (L : List Nd) (w : World) (h1 : Gs encN w p n L) (h2 : Gs encN w q m L) (hn : n ≤ 2097152) :
    Calls Try.prog 11 #[.slice p n c, .slice q m d] w fun e w' => e = .returned (.bool true) ∧ ∃ q, w' = w.drewN q := by
  obtain rfl : n = m := by rw [← h1.1, ← h2.1]
  have H1 := Lib.hid h1
  have H2 := Lib.hid h2
  have e1 : (((n : Nat) : Int) != (n : Int)) = false := by simp
  clear h1 h2
  go_enter Try.func11, Try.ntmps11
  go_wp2
  go_loopw [5] (fun i wr => ∃ k : Nat, k ≤ n ∧ i = .int .i64 k ∧ ∃ q, wr = w.drewN q) (fun i _ => n - (intOf i).toNat)
  case atStart => exact ⟨0, Nat.zero_le _, rfl, 0, rfl⟩
  case round =>
    obtain ⟨k, hk, rfl, nw, rfl⟩ := hrel
    by_cases hlt : k < n
    · obtain ⟨b, off, rfl, c0, c1⟩ := H1.out.nd k hlt
      obtain ⟨b2, off2, rfl, d0, d1⟩ := H2.out.nd k hlt
      have hkn : (k : Int) < (n : Int) := by omega
      have hk0 : (0 : Int) ≤ (k : Int) := by omega
      generalize L.getD k nd0 = y at *
      obtain ⟨ys, yi⟩ := y
      dsimp only at c0 c1 d0 d1
      have heq := nd_eq ys yi
      go_wp2
      go_quiet (fail)
      go_wp2
      exact ⟨⟨k + 1, by omega, by go_num, _, rfl⟩, by simp [intOf] <;> omega⟩
    · obtain rfl : k = n := by omega
      go_wp2
      go_ret
      exact ⟨rfl, _, rfl⟩

set_option maxRecDepth 100000 in
theorem rints_any (p q : Option Addr) (n c m d : Nat) (L : List Int) (w : World) (h1 : Gs encI w p n L) (h2 : Gs encI w q m L) (hn : n ≤ 2097152) :
    Calls Try.prog 17 #[.slice p n c, .slice q m d] w fun e w' => e = .returned (.bool true) ∧ ∃ q, w' = w.drewN q := by
  obtain rfl : n = m := by rw [← h1.1, ← h2.1]
  have H1 := Lib.hid h1
  have H2 := Lib.hid h2
  have e1 : (((n : Nat) : Int) != (n : Int)) = false := by simp
  clear h1 h2
  go_enter Try.func17, Try.ntmps17
  go_wp2
  go_loopw [5] (fun i wr => ∃ k : Nat, k ≤ n ∧ i = .int .i64 k ∧ ∃ q, wr = w.drewN q) (fun i _ => n - (intOf i).toNat)
  case atStart => exact ⟨0, Nat.zero_le _, rfl, 0, rfl⟩
  case round =>
    obtain ⟨k, hk, rfl, nw, rfl⟩ := hrel
    by_cases hlt : k < n
    · obtain ⟨b, off, rfl, c0⟩ := H1.out.it k hlt
      obtain ⟨b2, off2, rfl, d0⟩ := H2.out.it k hlt
      have hkn : (k : Int) < (n : Int) := by omega
      have hk0 : (0 : Int) ≤ (k : Int) := by omega
      generalize L.getD k 0 = y at *
      have heq : (y != y) = false := by simp
      go_wp2
      go_quiet (fail)
      go_wp2
      exact ⟨⟨k + 1, by omega, by go_num, _, rfl⟩, by simp [intOf] <;> omega⟩
    · obtain rfl : k = n := by omega
      go_wp2
      go_ret
      exact ⟨rfl, _, rfl⟩

set_option maxRecDepth 100000 in
set_option maxHeartbeats 1000000 in
theorem rsame_any (x y : Fo) (w : World) (h1 : Fo.fit w x) (h2 : Fo.fit w y) (ho : x.fd.ok) (he : y.fd = x.fd) :
    Calls Try.prog 10 #[x.v, y.v] w fun e w' => e = .returned (.bool true) ∧ Below w.heap.size w w' := by
  obtain ⟨hnm, hll, hml⟩ := Fo.len h1 ho
  obtain ⟨p, l, c, q, m, d, L, M⟩ := x
  obtain ⟨p2, l2, c2, q2, m2, d2, L2, M2⟩ := y
  obtain ⟨rfl, rfl⟩ : L2 = L ∧ M2 = M := by
    simp only [Fo.fd, Fd.mk.injEq] at he; exact he
  dsimp only at hnm hll hml
  obtain rfl : l2 = l := by rw [← hll]; exact h2.1.1.symm
  obtain rfl : m2 = m := by rw [← hml]; exact h2.2.2.2.1.1.symm
  have hl : l2 ≤ 2097152 := by omega
  have hm : m2 ≤ 2097152 := by omega
  unfold Fo.v
  obtain ⟨wA, hA⟩ : ∃ A, (w.alloc (.cells #[.slice p l2 c, .slice q m2 d] 25)).alloc (.cells #[.slice p2 l2 c2, .slice q2 m2 d2] 25) = A := ⟨_, rfl⟩
  have HBA : Hid (Below w.heap.size w wA) := Lib.hid (by rw [← hA]; exact below_alloc' (below_alloc' (Below.refl _ _) _) _)
  have HI : Hid (Fw wA w.heap.size ⟨p, l2, c, q, m2, d, L2, M2⟩) := Lib.hid (by rw [← hA]; exact Fw.later (heap_alloc_new _ _) (below_alloc' (Below.refl _ _) _))
  have HJ : Hid (Fw wA (w.heap.size + 1) ⟨p2, l2, c2, q2, m2, d2, L2, M2⟩) := Lib.hid (by rw [← hA]; exact two_new _ _ _)
  have HX := Lib.hid (h1.later HBA.out)
  have HY := Lib.hid (h2.later HBA.out)
  obtain ⟨i0, i1⟩ := HI.out.cells
  obtain ⟨j0, j1⟩ := HJ.out.cells
  have e1 : (((m2 : Nat) : Int) != (m2 : Int)) = false := by simp
  clear h1 h2 ho he hnm
  go_enter Try.func10, Try.ntmps10
  go_wp2_with fail
  clear hA
  refine (rnames_any p p2 l2 c l2 c2 L2 wA HX.out.1 HY.out.1 hl).mono ?_
  rintro e2 w2 ⟨rfl, nq, rfl⟩
  have HB2 := Lib.hid (below_drewN (Below.refl wA.heap.size wA) nq)
  generalize wA.drewN nq = w2 at *
  clear i0 i1 j0 j1
  obtain ⟨i0, i1⟩ := (HI.out.later HB2.out).cells
  obtain ⟨j0, j1⟩ := (HJ.out.later HB2.out).cells
  go_wp2
  clear i0 i1 j0 j1
  go_loopw [5] (fun i wr => ∃ k : Nat, k ≤ m2 ∧ i = .int .i64 k ∧ Hid (Below wA.heap.size wA wr)) (fun i _ => m2 - (intOf i).toNat)
  case atStart => exact ⟨0, Nat.zero_le _, rfl, HB2⟩
  case round =>
    clear HB2
    obtain ⟨k, hk, rfl, HB⟩ := hrel
    obtain ⟨i0, i1⟩ := (HI.out.later HB.out).cells
    obtain ⟨j0, j1⟩ := (HJ.out.later HB.out).cells
    by_cases hlt : k < m2
    · obtain ⟨b, off, rfl, c0, c1, c2, c3⟩ := (HX.out.2.2.2.1.later HB.out).cg k hlt
      obtain ⟨b2, off2, rfl, d0, d1, d2, d3⟩ := (HY.out.2.2.2.1.later HB.out).cg k hlt
      have hkn : (k : Int) < (m2 : Int) := by omega
      have hk0 : (0 : Int) ≤ (k : Int) := by omega
      generalize M2.getD k cg0 = y at *
      obtain ⟨yk, ya, yb, yi⟩ := y
      dsimp only at c0 c1 c2 c3 d0 d1 d2 d3
      have heq := cg_eq yk yi ya yb
      go_wp2
      go_quiet (fail)
      have HB3 := Lib.hid (below_drewN HB.out nq)
      generalize wr.drewN nq = w3 at *
      go_wp2
      exact ⟨⟨k + 1, by omega, by go_num, HB3⟩, by simp [intOf] <;> omega⟩
    · obtain rfl : k = m2 := by omega
      go_wp2
      go_ret
      exact ⟨rfl, below_step HBA.out HB.out⟩
end Go.Proofs.Ytebkpjnnmlccmaa
