/- Walks of the reference of layer 2: Take. -/
import Derived.Test.YtjlbeglnflcjmaaVarW3
namespace Go.Proofs.Ytjlbeglnflcjmaa
set_option linter.unusedVariables false
open Go.RowKit Go.Lib

theorem hi_le {ys : List Int} {k m : Nat} (h : m ≤ k) : hiS ys k m ≤ loS ys k := by
  have h1 := hiS_split ys k m h
  have h2 := loS_bd ys (k - m)
  have h3 := hiS_bd ys k m
  have hp : (0 : Int) < 128 ^ (k - m) := Int.pow_pos (by omega)
  have h4 : hiS ys k m * 1 ≤ hiS ys k m * 128 ^ (k - m) := Int.mul_le_mul_of_nonneg_left (by omega) h3.1
  omega
theorem lo_u64 {ys : List Int} {k : Nat} (hk : k ≤ 9) (h9 : k = 9 → 0 ≤ ys.getD 9 0 ∧ ys.getD 9 0 ≤ 1) : loS ys (k + 1) < 18446744073709551616 := by
  have h1 := loS_bd ys (k + 1)
  by_cases e : k = 9
  · subst e
    have h2 := h9 rfl
    have h3 := loS_bd ys 9
    have e1 : (128 : Int) ^ 9 = 9223372036854775808 := by decide
    have e2 : loS ys (9 + 1) = loS ys 9 + ys.getD 9 0 % 128 * 128 ^ 9 := rfl
    rw [e2]
    rw [e1] at h3 ⊢
    omega
  · have : (128 : Int) ^ (k + 1) ≤ 128 ^ 9 := by
      have : 128 ^ (k + 1) ≤ 128 ^ 9 := Nat.pow_le_pow_right (by omega) (by omega)
      exact_mod_cast this
    have e1 : (128 : Int) ^ 9 = 9223372036854775808 := by decide
    omega

set_option maxRecDepth 100000 in
theorem rvtake_walk (b off len cap : Nat) (zs : List Int) (a : Nat) (w : World) (hzl : zs.length = len) (hby : ∀ j, 0 ≤ zs.getD j 0 ∧ zs.getD j 0 < 256) (hc : ∀ j, j < len → w.cell? ⟨b, off + j, none⟩ = some (.int .u8 (zs.getD j 0))) (hlc : len ≤ maxLen) (ha : a ≤ len) :
    Calls Try.prog 12 #[.slice (some ⟨b, off, none⟩) len cap, .int .i64 a] w fun e w' => e = .returned (.tuple #[.int .u64 (tk zs a).1, .int .i64 (tk zs a).2.1, .int .i64 (tk zs a).2.2]) ∧ w = w' := by
  unfold maxLen at hlc
  have d1 : decide ((a : Int) < 0) = false := by simp
  have d3 : decide (len < a) = false := by simp; omega
  obtain ⟨ys, hys⟩ : ∃ ys, zs.drop a = ys := ⟨_, rfl⟩
  have hyl : ys.length = len - a := by rw [← hys, List.length_drop, hzl]
  have hyg : ∀ j, ys.getD j 0 = zs.getD (a + j) 0 := fun j => by rw [← hys, drop_getD]
  have HC := Lib.hid hc
  have HB := Lib.hid hby
  have HYS := Lib.hid hys
  have HYL := Lib.hid hyl
  have HYG := Lib.hid hyg
  have HZL := Lib.hid hzl
  clear hzl hby hc hys hyl hyg
  go_enter Try.func12, Try.ntmps12
  go_wp2
  go_loop [7] (fun i => ∃ k : Nat, k ≤ 10 ∧ a + k ≤ len ∧ i = .int .i64 k ∧ Hid (∀ j, j < k → 127 < ys.getD j 0)) (fun i => len - (intOf i).toNat)
  case atStart => exact ⟨0, by omega, by omega, rfl, Lib.hid (by omega)⟩
  case round =>
    obtain ⟨k, hk10, hkl, rfl, hall⟩ := hrel
    obtain ⟨y, hy⟩ : ∃ y, zs.getD (a + k) 0 = y := ⟨_, rfl⟩
    obtain ⟨z, hz⟩ : ∃ z, zs.getD (a + 9) 0 = z := ⟨_, rfl⟩
    have hb := HB.out (a + k)
    have hb9 := HB.out (a + 9)
    have hcell : (a : Int) + k < len → w.cell? ⟨b, off + (a + k), none⟩ = some (.int .u8 y) := fun h => by rw [← hy]; exact HC.out (a + k) (by omega)
    have hcell9 : (a : Int) + 9 < len → w.cell? ⟨b, off + (a + 9), none⟩ = some (.int .u8 z) := fun h => by rw [← hz]; exact HC.out (a + 9) (by omega)
    rw [hy] at hb
    rw [hz] at hb9
    have HY : Hid (ys.getD k 0 = y) := Lib.hid (by rw [HYG.out]; exact hy)
    have HZ : Hid (ys.getD 9 0 = z) := Lib.hid (by rw [HYG.out]; exact hz)
    have HA : Hid (a ≤ zs.length) := Lib.hid (by rw [HZL.out]; exact ha)
    have H20 : Hid (9 ≤ (k : Int) → (a : Int) + 9 < len → 1 < z → tk zs (a : Nat) = (0, 0, 20)) := Lib.hid fun h1 h2 h3 =>
      tk_err HA.out (by decide) (by rw [HYS.out]; exact rd_range (by rw [HYL.out]; omega) (fun j hj => hall.out j (by omega)) (by rw [HZ.out]; exact h3))
    have H10 : Hid (10 ≤ (k : Int) → (a : Int) + 9 < len ∧ 127 < z) := Lib.hid fun h1 => ⟨by omega, by have := hall.out 9 (by omega); rw [HZ.out] at this; exact this⟩
    have H9 : Hid (k = 9 → y = z) := Lib.hid fun h1 => by rw [← HY.out, ← HZ.out, h1]
    have H4 : Hid ((len : Int) ≤ (a : Int) + k → (k : Int) < 10 → tk zs (a : Nat) = (0, 0, 4)) := Lib.hid fun h1 h2 =>
      tk_err HA.out (by decide) (by rw [HYS.out]; exact rd_short (by rw [HYL.out]; omega) (fun j hj => hall.out j (by rw [HYL.out] at hj; omega)))
    have H3 : Hid ((a : Int) + k < len → (k : Int) < 10 → 0 < k → y = 0 → tk zs (a : Nat) = (0, 0, 3)) := Lib.hid fun h1 h2 h3 h4 =>
      tk_way3 HYS.out HA.out (by rw [HYL.out]; omega) (by omega) hall.out HY.out h4 h3
    have H0 : Hid ((a : Int) + k < len → (k : Int) < 10 → y ≤ 127 → (y ≠ 0 ∨ k = 0) → (k = 9 → z ≤ 1) → tk zs (a : Nat) = (loS ys (k + 1), (a : Int) + (k + 1), 0) ∧ loS ys (k + 1) < 18446744073709551616) := Lib.hid fun h1 h2 h3 h4 h5 =>
      ⟨tk_ok HA.out (by rw [HYS.out]; exact rd_num (by omega) (by rw [HYL.out]; omega) hall.out (by rw [HY.out]; exact h3) (by rw [HY.out]; omega) (fun e => by rw [HY.out, H9.out e]; exact h5 e)), lo_u64 (by omega) (fun e => by rw [HZ.out]; exact ⟨hb9.1, h5 e⟩)⟩
    clear hy hz
    go_wp2
    case roundEnd => exact ⟨⟨k + 1, by omega, by omega, by go_num, Lib.hid (all_next hall.out HY.out (by omega))⟩, by simp [intOf]; omega⟩
    all_goals first
      | (exfalso; have h10 := H10.out; have h9 := H9.out; omega)
      | (go_ret3; exact ⟨ret_tk (H20.out (by assumption) (by assumption) (by assumption)), rfl⟩)
      | (go_ret3; exact ⟨ret_tk (H4.out (by omega) (by have h10 := H10.out; omega)), rfl⟩)
      | (go_ret3; exact ⟨ret_tk (H3.out (by omega) (by have h10 := H10.out; omega) (by omega) (by simpa using (by assumption : (y == 0) = true))), rfl⟩)
      | skip
    all_goals
      have hy0 : y ≠ 0 ∨ k = 0 := by
        first
        | exact Or.inr (by omega)
        | exact Or.inl (by simpa using (by assumption : (y == 0) = false))
      have hk9 : k ≤ 9 := by omega
      have hlt : (a : Int) + k < len := by assumption
      have hR := H0.out hlt (by omega) (by assumption) hy0 (by intro e; omega)
      have HR := Lib.hid hR
      clear hR hy0 hcell hcell9
      go_loop [8, 9] (fun n i => ∃ m : Nat, m ≤ k + 1 ∧ i = .int .i64 ((k : Int) - m) ∧ n = .int .u64 (hiS ys (k + 1) m)) (fun _ i => (intOf i + 1).toNat)
      case atStart => exact ⟨0, by omega, by simp, rfl⟩
      case round =>
        obtain ⟨m, hm, rfl, rfl⟩ := hrel
        by_cases hmk : m = k + 1
        · subst hmk
          go_wp2
          go_ret3
          exact ⟨ret_tk (by rw [HR.out.1, hiS_lo]; congr 2), rfl⟩
        · obtain ⟨x, hx⟩ : ∃ x, zs.getD (a + (k - m)) 0 = x := ⟨_, rfl⟩
          have hbx := HB.out (a + (k - m))
          have hcx := HC.out (a + (k - m)) (by omega)
          rw [hx] at hbx hcx
          have e1 : ys.getD (k + 1 - 1 - m) 0 = x := by rw [HYG.out, ← hx]; congr 1
          have e2 : hiS ys (k + 1) (m + 1) = hiS ys (k + 1) m * 128 + x % 128 := by rw [hiS, e1]
          have e3 := hi_le (ys := ys) (k := k + 1) (m := m + 1) (by omega)
          have e4 := hiS_bd ys (k + 1) m
          have E : Hid (hiS ys (k + 1) (m + 1) = hiS ys (k + 1) m * 128 + x % 128 ∧ hiS ys (k + 1) (m + 1) < 18446744073709551616 ∧ 0 ≤ hiS ys (k + 1) m) := Lib.hid ⟨e2, by have := HR.out.2; omega, e4.1⟩
          clear hx e1 e2 e3 e4
          go_wp2
          refine ⟨⟨m + 1, by omega, by go_num, ?_⟩, by simp [intOf]; omega⟩
          obtain ⟨e5, e6, e7⟩ := E.out
          rw [e5, wrap_u64_in (x := hiS ys (k + 1) m * 128) (by omega) (by omega), wrap_u64_in (by omega) (by omega)]

theorem rvtake_any (p : Option Addr) (len cap : Nat) (zs : List Int) (a : Int) (w : World) (h : Bs w p len zs) (hlc : len ≤ maxLen) :
    Calls Try.prog 12 #[.slice p len cap, .int .i64 a] w fun e w' => e = .returned (.tuple #[.int .u64 (tk zs a).1, .int .i64 (tk zs a).2.1, .int .i64 (tk zs a).2.2]) ∧ w = w' := by
  have hzl := h.len
  by_cases h1 : a < 0
  · have ht := tk_arg (zs := zs) (Or.inl h1)
    have HT := Lib.hid ht
    clear ht hzl h
    go_enter Try.func12, Try.ntmps12
    go_wp2
    go_ret3
    exact ⟨ret_tk HT.out, rfl⟩
  · obtain ⟨a, rfl⟩ := Int.eq_ofNat_of_zero_le (show 0 ≤ a by omega)
    by_cases h2 : len < a
    · have ht := tk_arg (zs := zs) (a := (a : Int)) (Or.inr (by omega))
      have HT := Lib.hid ht
      have d1 : decide ((a : Int) < 0) = false := by simp
      unfold maxLen at hlc
      clear ht hzl h h1
      go_enter Try.func12, Try.ntmps12
      go_wp2
      go_ret3
      exact ⟨ret_tk HT.out, rfl⟩
    · rcases h.2.2 with h3 | ⟨b, off, rfl, hc⟩
      · subst h3
        obtain rfl : a = 0 := by omega
        obtain rfl : zs = [] := List.length_eq_zero_iff.1 hzl
        have HT : Hid (tk [] ((0 : Nat) : Int) = (0, 0, 4)) := Lib.hid (by decide)
        clear hzl h h1 h2 hlc
        go_enter Try.func12, Try.ntmps12
        go_wp2
        go_loop [7] (fun i => i = .int .i64 0) (fun i => 0)
        case atStart => rfl
        case round =>
          subst hrel
          go_wp2
          go_ret3
          exact ⟨ret_tk HT.out, rfl⟩
      · exact rvtake_walk b off len cap zs a w hzl h.byte hc hlc (by omega)
end Go.Proofs.Ytjlbeglnflcjmaa
