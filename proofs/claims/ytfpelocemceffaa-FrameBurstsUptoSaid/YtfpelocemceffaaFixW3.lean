/- Walks of package fixed and its reference: Take for all arguments. -/
import Derived.Test.YtfpelocemceffaaFixW2
namespace Go.Proofs.Ytfpelocemceffaa
set_option linter.unusedVariables false
open Go.RowKit

def takeB (n a s : Int) : Bool := isSizeB s && holdsB n a s
def takeN (zs : List Int) (a s : Int) : Int := if takeB zs.length a s then leN zs a.toNat s.toNat else 0

theorem take_any (p : Option Addr) (len cap : Nat) (zs : List Int) (a s : Int) (w : World) (h : Bs w p len zs) (hlen : len ≤ maxLen) (ha : -9223372036854775808 ≤ a ∧ a ≤ 9223372036854775807) :
    Calls Try.prog 31 #[.slice p len cap, .int .i64 a, .int .i64 s] w fun e w' => e = .returned (.tuple #[.int .u64 (takeN zs a s), .bool (takeB zs.length a s)]) ∧ w = w' := by
  obtain ⟨hz, hw, hp⟩ := h
  by_cases ht : takeB zs.length a s = true
  · have ht' := ht
    simp only [takeB, isSizeB, holdsB, Bool.and_eq_true, decide_eq_true_eq] at ht'
    obtain ⟨⟨s1, s2⟩, a1, a2⟩ := ht'
    obtain ⟨a, rfl⟩ := Int.eq_ofNat_of_zero_le a1
    obtain ⟨s, rfl⟩ := Int.eq_ofNat_of_zero_le (show 0 ≤ s by omega)
    rcases hp with h0 | ⟨b, off, rfl, hc⟩
    · omega
    · rw [takeN, if_pos ht, ht]
      exact take_walk b off len cap zs a s w (by omega) hlen (by omega) (by omega) (by omega) (fun j hj => hc j (by omega)) hw
  · have ht' : takeB zs.length a s = false := by simpa using ht
    rw [takeN, if_neg ht, ht']
    have hlen' := hlen
    unfold maxLen at hlen
    unfold takeB at ht'
    rw [hz] at ht'
    clear ht hp hw hz
    by_cases h1 : isSizeB s = true
    · have h2 : holdsB len a s = false := by simpa [h1] using ht'
      have hs : 0 ≤ s ∧ s ≤ 300 := by simp [isSizeB] at h1; omega
      clear ht'
      go_enter Try.func31, Try.ntmps31
      go_wp2_with (first | (go_at_call 33; refine (isSize_any _ _).mono ?_; rintro e w' ⟨rfl, rfl⟩) | (go_at_call 35; refine (holds_any _ _ _ _ _ _ hlen' hs).mono ?_; rintro e w' ⟨rfl, rfl⟩))
      go_ret2
      exact ⟨rfl, rfl⟩
    · have h2 : isSizeB s = false := by simpa using h1
      clear ht' h1
      go_enter Try.func31, Try.ntmps31
      go_wp2_with (first | (go_at_call 33; refine (isSize_any _ _).mono ?_; rintro e w' ⟨rfl, rfl⟩) | (go_at_call 35; refine (holds_any _ _ _ _ _ _ hlen' (by omega)).mono ?_; rintro e w' ⟨rfl, rfl⟩))
      go_ret2
      exact ⟨rfl, rfl⟩

theorem rtake_walk (b off len cap : Nat) (zs : List Int) (a s : Nat) (w : World) (hz : len ≤ zs.length) (hlen : len ≤ maxLen) (hs1 : 1 ≤ s) (hs2 : s ≤ 8) (ha : a + s ≤ len)
    (hc : ∀ j, j < zs.length → w.cell? ⟨b, off + j, none⟩ = some (.int .u8 (zs.getD j 0))) (hw : ∀ j, 0 ≤ zs.getD j 0 ∧ zs.getD j 0 < 256) :
    Calls Try.prog 19 #[.slice (some ⟨b, off, none⟩) len cap, .int .i64 a, .int .i64 s] w fun e w' => e = .returned (.tuple #[.int .u64 (leN zs a s), .bool true]) ∧ w = w' := by
  unfold maxLen at hlen
  have d1 : decide ((len : Int) - s < a) = false := by simp; omega
  have d2 : decide ((a : Int) < 0) = false := by simp
  have d3 : decide ((8 : Int) < s) = false := by simp; omega
  have d4 : decide ((s : Int) < 1) = false := by simp; omega
  go_enter Try.func19, Try.ntmps19
  go_wp2
  go_loop [8, 9] (fun n i => ∃ k : Nat, k ≤ s ∧ i = .int .i64 ((s : Int) - 1 - k) ∧ n = .int .u64 (beN zs a s k)) (fun _ i => (intOf i + 1).toNat)
  case atStart => exact ⟨0, Nat.zero_le _, by simp, rfl⟩
  case round =>
    obtain ⟨k, hk, rfl, rfl⟩ := hrel
    have hcell : k < s → w.cell? ⟨b, off + (a + (s - 1 - k)), none⟩ = some (.int .u8 (zs.getD (a + (s - 1 - k)) 0)) := fun _ => hc (a + (s - 1 - k)) (by omega)
    have hb := hw (a + (s - 1 - k))
    have hl := beN_bd zs hw a s k
    by_cases hlt : k < s
    · have e1 : s - (k + 1) + 1 = s - k := by omega
      have e2 := beN_bd zs hw a s (k + 1)
      have e3 : (256 : Int) ^ (k + 1) ≤ 18446744073709551616 := by
        have h7 : (256 : Nat) ^ (k + 1) ≤ 256 ^ 8 := Nat.pow_le_pow_right (by omega) (by omega)
        have h8 : ((256 ^ (k + 1) : Nat) : Int) ≤ ((256 ^ 8 : Nat) : Int) := by exact_mod_cast h7
        simpa using h8
      have e4 : beN zs a s (k + 1) = beN zs a s k * 256 + zs.getD (a + (s - 1 - k)) 0 := rfl
      have E : Hid (beN zs a s (k + 1) < 18446744073709551616 ∧ beN zs a s (k + 1) = beN zs a s k * 256 + zs.getD (a + (s - 1 - k)) 0) := Lib.hid ⟨by omega, e4⟩
      clear e1 e2 e3 e4
      go_wp2
      refine ⟨⟨k + 1, by omega, by congr 1; omega, ?_⟩, by simp [intOf]; omega⟩
      have e5 := E.out
      rw [← List.getD_eq_getElem?_getD, e5.2, wrap_u64_in (x := zs.getD _ _) hb.1 (by omega), wrap_u64_in (x := beN zs a s k * 256) (by omega) (by omega), wrap_u64_in (by omega) (by omega)]
    · have e : k = s := by omega
      subst e
      go_wp2
      go_ret2
      exact ⟨by rw [← beN_le zs a k]; rfl, rfl⟩

theorem rtake_any (p : Option Addr) (len cap : Nat) (zs : List Int) (a s : Int) (w : World) (h : Bs w p len zs) (hlen : len ≤ maxLen) (ha : -9223372036854775808 ≤ a ∧ a ≤ 9223372036854775807) (hs : -9223372036854775808 ≤ s ∧ s ≤ 9223372036854775807) :
    Calls Try.prog 19 #[.slice p len cap, .int .i64 a, .int .i64 s] w fun e w' => e = .returned (.tuple #[.int .u64 (takeN zs a s), .bool (takeB zs.length a s)]) ∧ w = w' := by
  obtain ⟨hz, hw, hp⟩ := h
  by_cases ht : takeB zs.length a s = true
  · have ht' := ht
    simp only [takeB, isSizeB, holdsB, Bool.and_eq_true, decide_eq_true_eq] at ht'
    obtain ⟨⟨s1, s2⟩, a1, a2⟩ := ht'
    obtain ⟨a, rfl⟩ := Int.eq_ofNat_of_zero_le a1
    obtain ⟨s, rfl⟩ := Int.eq_ofNat_of_zero_le (show 0 ≤ s by omega)
    rcases hp with h0 | ⟨b, off, rfl, hc⟩
    · omega
    · rw [takeN, if_pos ht, ht]
      exact rtake_walk b off len cap zs a s w (by omega) hlen (by omega) (by omega) (by omega) (fun j hj => hc j (by omega)) hw
  · have ht' : takeB zs.length a s = false := by simpa using ht
    rw [takeN, if_neg ht, ht']
    unfold maxLen at hlen
    simp only [takeB, isSizeB, holdsB, Bool.and_eq_false_iff, decide_eq_false_iff_not, hz] at ht'
    clear ht hp hw hz
    by_cases h1 : s < 1
    · go_enter Try.func19, Try.ntmps19
      go_wp2
      go_ret2
      exact ⟨rfl, rfl⟩
    · by_cases h2 : 8 < s
      · go_enter Try.func19, Try.ntmps19
        go_wp2
        go_ret2
        exact ⟨rfl, rfl⟩
      · by_cases h3 : a < 0
        · go_enter Try.func19, Try.ntmps19
          go_wp2
          go_ret2
          exact ⟨rfl, rfl⟩
        · have h4 : (len : Int) - s < a := by omega
          clear ht'
          go_enter Try.func19, Try.ntmps19
          go_wp2
          go_ret2
          exact ⟨rfl, rfl⟩
end Go.Proofs.Ytfpelocemceffaa
