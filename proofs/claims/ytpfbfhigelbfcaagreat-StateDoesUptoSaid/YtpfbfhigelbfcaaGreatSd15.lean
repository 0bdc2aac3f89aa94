/- Layer 11, the reference: Ints: of equal rows it answers true -/
import Derived.Test.YtpfbfhigelbfcaaGreatSd10
import Derived.Lib.SmallJoins
set_option linter.unusedSimpArgs false
set_option linter.unusedVariables false
namespace Go.Proofs.YtpfbfhigelbfcaaGreat
open Go.RowKit Go.Lib
set_option maxRecDepth 100000 in
theorem rints_any (p q : Option Addr) (n c m d : Nat) (L : List Int) (w : World) (h1 : Gs encI w p n L) (h2 : Gs encI w q m L) (hn : n ≤ 2097216) :
 Calls Tryz.prog 68 #[.slice p n c, .slice q m d] w fun e w' => e = .returned (.bool true) ∧ ∃ q, w' = w.drewN q := by
 obtain rfl : n = m := by rw [← h1.1, ← h2.1]
 have H1 := Lib.hid h1
 have H2 := Lib.hid h2
 have e1 : (((n : Nat) : Int) != (n : Int)) = false := by simp
 clear h1 h2
 go_enter Tryz.func68, Tryz.ntmps68
 go_wp2
 go_loopw [5] (fun i wr => ∃ k : Nat, k ≤ n ∧ i = .int .i64 k ∧ ∃ q, wr = w.drewN q) (fun i _ => n - (intOf i).toNat)
 case atStart => exact ⟨0, Nat.zero_le _, rfl, 0, rfl⟩
 case round =>
  obtain ⟨k, hk, rfl, nw, rfl⟩ := hrel
  by_cases hlt : k < n
  ·obtain ⟨b, off, rfl, c0⟩ := H1.out.it k hlt
   obtain ⟨b2, off2, rfl, d0⟩ := H2.out.it k hlt
   have hkn : (k : Int) < (n : Int) := by omega
   have hk0 : (0 : Int) ≤ (k : Int) := by omega
   generalize L.getD k 0 = y at *
   have heq : (y != y) = false := by simp
   go_wp2
   go_quiet (fail)
   go_wp2
   exact ⟨⟨k + 1, by omega, by go_num, _, rfl⟩, by simp [intOf] <;> omega⟩
  ·obtain rfl : k = n := by omega
   go_wp2
   go_ret
   exact ⟨rfl, _, rfl⟩
end Go.Proofs.YtpfbfhigelbfcaaGreat

