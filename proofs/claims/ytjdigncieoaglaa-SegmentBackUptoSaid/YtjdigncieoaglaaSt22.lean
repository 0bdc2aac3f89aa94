/- Walks of package crc: one bit shifted out; the table -/
import Derived.Test.YtjdigncieoaglaaSt4
import Derived.Test.YtjdigncieoaglaaSt21
import Derived.Laws.BitsAllLaws
set_option linter.unusedSimpArgs false
set_option linter.unusedVariables false
namespace Go.Proofs.Ytjdigncieoaglaa
set_option linter.unusedVariables false
open Go.RowKit Go.Lib

theorem cT_one {r : Nat} (h : r % 2 = 1) : cT r = (r / 2) ^^^ 2197175160 := by unfold cT; rw [if_pos h]
theorem cT_nil {r : Nat} (h : r % 2 = 0) : cT r = r / 2 := by unfold cT; rw [if_neg (by omega)]

theorem cshifted_any (r : Nat) (w : World) (hr : r < 4294967296) :
    Calls Try.prog 85 #[.int .u32 (r : Int)] w fun e w' => e = .returned (.int .u32 ((cT r : Nat) : Int)) ∧ w = w' := by
  have HONE := Lib.hid (cT_one (r := r))
  have HNIL := Lib.hid (cT_nil (r := r))
  have h1 : bits BinOp.and IntKind.u32 (r : Int) 1 = ((r % 2 : Nat) : Int) := (u32_and_nat r 1 hr (by omega)).trans (by rw [Nat.and_one_is_mod])
  have hx : bits BinOp.xor IntKind.u32 ((r : Int) / 2) 2197175160 = (((r / 2) ^^^ 2197175160 : Nat) : Int) := by
    have e : (r : Int) / 2 = ((r / 2 : Nat) : Int) := by omega
    rw [e]
    exact u32_xor_nat (r / 2) 2197175160 (by omega) (by omega)
  have HX := Lib.hid hx
  have H1 := Lib.hid h1
  clear hx h1
  go_enter Try.func85, Try.ntmps85
  go_wp2
  · rename_i h
    have h' := h
    rw [H1.out] at h'
    go_ret
    refine ⟨ret_int ?_, rfl⟩
    rw [HX.out, HONE.out (by simp at h'; omega)]
  · rename_i h
    have h' := h
    rw [H1.out] at h'
    go_ret
    refine ⟨ret_int ?_, rfl⟩
    rw [HNIL.out (by simp at h'; omega)]
    omega

def tab4 (k : Nat) : List Nat := (List.range 16).map fun n => if n < k then cTn n 4 else 0
theorem tab4_length (k : Nat) : (tab4 k).length = 16 := by simp [tab4]
theorem tab4_zero : tab4 0 = List.replicate 16 0 := rfl
theorem tab4_get (j : Nat) (h : j < 16) : (tab4 16).getD j 0 = cTn j 4 := by simp [tab4, List.getD_eq_getElem?_getD, h]
theorem tab4_set (k : Nat) (h : k < 16) : (tab4 k).set k (cTn k 4) = tab4 (k + 1) := by
  apply List.ext_getElem?
  intro i
  rw [List.getElem?_set]
  simp only [tab4, List.length_map, List.length_range, List.getElem?_map]
  by_cases hi : i < 16
  · by_cases e : k = i
    · subst e; simp [hi]
    · rw [if_neg e, List.getElem?_range hi]
      simp only [Option.map_some]
      by_cases h1 : i < k
      · rw [if_pos h1, if_pos (by omega)]
      · rw [if_neg h1, if_neg (by omega)]
  · rw [if_neg (by omega)]
    simp [hi]
theorem size16 : (Try.prog.info? 130).map (·.size) = some 16 := by kernel_rfl

set_option maxRecDepth 100000 in
theorem ctable_any (w : World) : Calls Try.prog 84 #[] w fun e w' => e = .returned (.agg (rcs .u32 (tab4 16))) ∧ Below w.heap.size w w' := by
  have HW0 : Hid (Rw .u32 ((w.alloc (.cells (rcs .u32 (List.replicate 16 0)) 130)).alloc (.cells (rcs .u32 (List.replicate 16 0)) 130)) (w.heap.size + 1) 130 (tab4 0)) := Lib.hid (by
    have h := heap_alloc_new (w.alloc (.cells (rcs .u32 (List.replicate 16 0)) 130)) (.cells (rcs .u32 (List.replicate 16 0)) 130)
    rw [World.size_alloc] at h
    exact h)
  have HV0 : Hid (Rw .u32 (w.alloc (.cells (rcs .u32 (List.replicate 16 0)) 130)) w.heap.size 130 (List.replicate 16 0)) := Lib.hid (heap_alloc_new _ _)
  have HV1 : Hid (Rw .u32 ((w.alloc (.cells (rcs .u32 (List.replicate 16 0)) 130)).alloc (.cells (rcs .u32 (List.replicate 16 0)) 130)) w.heap.size 130 (List.replicate 16 0)) := Lib.hid (HV0.out.later ((Below.refl _ _).alloc (Nat.le_refl _) _))
  have HB0 : Hid (Below w.heap.size w ((w.alloc (.cells (rcs .u32 (List.replicate 16 0)) 130)).alloc (.cells (rcs .u32 (List.replicate 16 0)) 130))) := Lib.hid (((Below.refl _ _).alloc (Nat.le_refl _) _).alloc (by simp) _)
  go_enter Try.func84, Try.ntmps84
  go_wp2
  go_loopw [4] (fun i wr => ∃ k : Nat, k ≤ 16 ∧ i = .int .u32 (k : Int) ∧ Hid (Rw .u32 wr (w.heap.size + 1) 130 (tab4 k)) ∧ Hid (Rw .u32 wr w.heap.size 130 (List.replicate 16 0)) ∧ Hid (Below w.heap.size w wr)) (fun i _ => 16 - (intOf i).toNat)
  case atStart => exact ⟨0, by omega, rfl, HW0, HV1, HB0⟩
  case round =>
    obtain ⟨k, hk, rfl, hr, hv, hb⟩ := hrel
    by_cases hlt : k < 16
    · have hklt : ((k : Int) < 16) := by omega
      go_wp2
      go_loopw [3, 8] (fun x j w2 => ∃ m : Nat, m ≤ 4 ∧ j = .int .i64 (m : Int) ∧ x = .int .u32 ((cTn k m : Nat) : Int) ∧ wr = w2) (fun _ j _ => 4 - (intOf j).toNat)
      case atStart => exact ⟨0, by omega, rfl, rfl, rfl⟩
      case round =>
        obtain ⟨m, hm, rfl, rfl, rfl⟩ := hrel
        by_cases hlt2 : m < 4
        · have HC : Hid (cTn k (m + 1) = cT (cTn k m)) := Lib.hid (cTn_succ k m)
          have hc : cTn k m < 4294967296 := cTn_lt m (by omega)
          generalize cTn k m = x at *
          go_wp2_with fail
          refine (cshifted_any x _ hc).mono ?_
          rintro e w1 ⟨rfl, rfl⟩
          go_wp2
          exact ⟨⟨m + 1, by omega, by go_num, by rw [HC.out], trivial⟩, by simp [intOf] <;> omega⟩
        · obtain rfl : m = 4 := by omega
          have HT := Lib.hid (tab4_set k hlt)
          generalize cTn k 4 = x at *
          have hc := hr.out.cell k (by rw [tab4_length]; omega)
          have hf := hr.out.frozen k
          go_wp2
          refine ⟨⟨k + 1, by omega, by go_num, ?_, ?_, ?_⟩, by simp [intOf] <;> omega⟩
          · rw [← HT.out]; exact Lib.hid (hr.out.set k x)
          · exact Lib.hid (hv.out.other _ _ (by simp))
          · exact Lib.hid (hb.out.setCell (p := ⟨w.heap.size + 1, k, none⟩) (by simp) _)
    · obtain rfl : k = 16 := by omega
      go_wp2_with (first
        | (refine wpList_load_row rfl 130 _ rfl (w.heap.size + 1) rfl 130 _ (0, 0) _ hr.out Try.underlying130 rfl (by rw [rcs_size, tab4_length]; exact size16) ?_)
        | (refine wpList_store_row rfl 130 _ _ rfl w.heap.size _ rfl rfl 130 _ hv.out (by rw [rcs_size, tab4_length]; exact size16) (by rw [rcs_size, rcs_size, tab4_length, List.length_replicate]) (rcs_one _) ?_))
      refine bodyPost_ret (Rw.results hv.out.row rfl _ rfl _ Try.underlying130 rfl (by rw [tab4_length]; exact size16)) rfl ⟨rfl, below_setRowR hb.out _ _ (Nat.le_refl _)⟩
end Go.Proofs.Ytjdigncieoaglaa
