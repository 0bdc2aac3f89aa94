/- Walks of package fixed: Take. -/
import Derived.Test.YtfpelocemceffaaFixW1
import Derived.Test.YtfpelocemceffaaFixP
import Derived.Test.YtfpelocemceffaaFixB
namespace Go.Proofs.Ytfpelocemceffaa
set_option linter.unusedVariables false
open Go.RowKit

theorem take_walk (b off len cap : Nat) (zs : List Int) (a s : Nat) (w : World) (hz : len ≤ zs.length) (hlen : len ≤ maxLen) (hs1 : 1 ≤ s) (hs2 : s ≤ 8) (ha : a + s ≤ len)
    (hc : ∀ j, j < zs.length → w.cell? ⟨b, off + j, none⟩ = some (.int .u8 (zs.getD j 0))) (hw : ∀ j, 0 ≤ zs.getD j 0 ∧ zs.getD j 0 < 256) :
    Calls Try.prog 31 #[.slice (some ⟨b, off, none⟩) len cap, .int .i64 a, .int .i64 s] w fun e w' => e = .returned (.tuple #[.int .u64 (leN zs a s), .bool true]) ∧ w = w' := by
  have hlen' := hlen
  unfold maxLen at hlen
  have hh : holdsB len a s = true := by simp [holdsB]; omega
  have hi : isSizeB s = true := by simp [isSizeB]; omega
  go_enter Try.func31, Try.ntmps31
  go_wp2_with (first | (go_at_call 33; refine (isSize_any _ _).mono ?_; rintro e w' ⟨rfl, rfl⟩) | (go_at_call 35; refine (holds_any _ _ _ _ _ _ hlen' (by omega)).mono ?_; rintro e w' ⟨rfl, rfl⟩))
  go_loop [8, 21] (fun n i => ∃ k : Nat, k ≤ s ∧ i = .int .i64 k ∧ n = .int .u64 (leN zs a k)) (fun _ i => s - (intOf i).toNat)
  case atStart => exact ⟨0, Nat.zero_le _, rfl, rfl⟩
  case round =>
    obtain ⟨k, hk, rfl, rfl⟩ := hrel
    have hcell : k < s → w.cell? ⟨b, off + (a + k), none⟩ = some (.int .u8 (zs.getD (a + k) 0)) := fun _ => hc (a + k) (by omega)
    have hb := hw (a + k)
    have hl := leN_bd zs hw a k
    by_cases hlt : k < s
    · go_wp2
      refine ⟨⟨k + 1, by omega, rfl, ?_⟩, by simp [intOf]; omega⟩
      rw [← List.getD_eq_getElem?_getD, or_shift _ _ k hl.1 hl.2 hb.1 hb.2 (by omega)]
      rfl
    · go_wp2
      go_ret2
      have e : k = s := by omega
      subst e
      exact ⟨rfl, rfl⟩
end Go.Proofs.Ytfpelocemceffaa
