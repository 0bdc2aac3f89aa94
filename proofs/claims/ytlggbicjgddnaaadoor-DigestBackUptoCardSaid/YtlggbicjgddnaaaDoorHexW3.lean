/- Walks of package hex: nibble. -/
import Derived.Test.YtlggbicjgddnaaaDoorHexW2
import Derived.Laws.RangeAny
import Derived.Lib.OthersKept
namespace Go.Proofs.YtlggbicjgddnaaaDoor
set_option linter.unusedVariables false
open Go.RowKit Go.Lib

theorem digit_at (k : Nat) (hk : k < 16) (h : k < (ByteArray.mk #[48, 49, 50, 51, 52, 53, 54, 55, 56, 57, 97, 98, 99, 100, 101, 102]).size) :
    ((((ByteArray.mk #[48, 49, 50, 51, 52, 53, 54, 55, 56, 57, 97, 98, 99, 100, 101, 102])[k]'h).toNat : Nat) : Int) = hfig (k : Int) := by
  have hk' : k = 0 ∨ k = 1 ∨ k = 2 ∨ k = 3 ∨ k = 4 ∨ k = 5 ∨ k = 6 ∨ k = 7 ∨ k = 8 ∨ k = 9 ∨ k = 10 ∨ k = 11 ∨ k = 12 ∨ k = 13 ∨ k = 14 ∨ k = 15 := by omega
  rcases hk' with rfl | rfl | rfl | rfl | rfl | rfl | rfl | rfl | rfl | rfl | rfl | rfl | rfl | rfl | rfl | rfl <;> rfl

theorem run_next_digit {P : Program} (w : World) (k : Nat) (hk : k < 16) (ty : TypeId) :
    (Instr.next (.pointer (some ⟨w.heap.size, 0, none⟩)) true ty).run P (w.iter { data := #[48, 49, 50, 51, 52, 53, 54, 55, 56, 57, 97, 98, 99, 100, 101, 102] } k) =
      .ok (.tuple #[.bool true, .int .i64 k, .int .i32 (hfig k)]) (w.iter { data := #[48, 49, 50, 51, 52, 53, 54, 55, 56, 57, 97, 98, 99, 100, 101, 102] } (k + 1)) := by
  have hs : k < (ByteArray.mk #[48, 49, 50, 51, 52, 53, 54, 55, 56, 57, 97, 98, 99, 100, 101, 102]).size := hk
  have hd := digit_at k hk hs
  have hb := hfig_bd (n := k) (by omega) (by omega)
  have ha : ((ByteArray.mk #[48, 49, 50, 51, 52, 53, 54, 55, 56, 57, 97, 98, 99, 100, 101, 102])[k]'hs).toNat < 128 := by
    have : hfig (k : Int) < 128 := by unfold hfig; split <;> omega
    omega
  rw [run_next_ascii w _ k ty hs ha, hd]

theorem hwor_none {r : Int} (h : ∀ j : Nat, j < 16 → hfig j ≠ r) : hwor r = 16 := by
  have b := hwor_bd r
  apply Classical.byContradiction
  intro hne
  have e := hfig_hwor hne
  have := h (hwor r).toNat (by omega)
  rw [Int.toNat_of_nonneg b.1] at this
  exact this e

def hnib (r : Int) : Int := if hwor r = 16 then 0 else hwor r
def hyes (r : Int) : Bool := decide (hwor r ≠ 16)
theorem hnib_yes {r : Int} {k : Nat} (h : hwor r = k) (hk : k < 16) : hnib r = k ∧ hyes r = true := by
  unfold hnib hyes
  rw [if_neg (by omega), h]
  exact ⟨rfl, by simp; omega⟩
theorem hnib_no {r : Int} (h : hwor r = 16) : hnib r = 0 ∧ hyes r = false := by
  unfold hnib hyes
  rw [if_pos h]
  exact ⟨rfl, by simp [h]⟩
theorem ret_nib {a b : Int} {c d : Bool} (h : a = b ∧ c = d) : Ending.returned (.tuple #[.int .u8 a, .bool c]) = .returned (.tuple #[.int .u8 b, .bool d]) := by rw [h.1, h.2]

set_option maxRecDepth 100000 in
theorem hnibble_any (r : Int) (w : World) :
    Calls Tryd.prog 36 #[.int .i32 r] w fun e w' => e = .returned (.tuple #[.int .u8 (hnib r), .bool (hyes r)]) ∧ Below w.heap.size w w' := by
  go_enter Tryd.func36, Tryd.ntmps36
  go_wp2
  go_loopw [2] (fun v wr => ∃ k : Nat, k ≤ 16 ∧ v = .int .u8 0 ∧ wr = w.iter { data := #[48, 49, 50, 51, 52, 53, 54, 55, 56, 57, 97, 98, 99, 100, 101, 102] } k ∧ Hid (∀ j : Nat, j < k → hfig j ≠ r)) (fun _ wr => 16 - wr.iterPos w.heap.size)
  case atStart => exact ⟨0, by omega, rfl, rfl, Lib.hid (fun j hj => by omega)⟩
  case round =>
    obtain ⟨k, hk, rfl, rfl, hno⟩ := hrel
    by_cases hlt : k < 16
    · have hnx := fun ty => run_next_digit (P := Tryd.prog) w k hlt ty
      by_cases he : hfig (k : Int) = r
      · have hw : hwor r = k := by rw [← he]; exact hwor_hfig (by omega) (by omega)
        have hb : (hfig (k : Int) == r) = true := by simpa using he
        have HW := Lib.hid hw
        clear hw he hno
        go_wp2
        go_ret2
        have e2 := hnib_yes HW.out hlt
        exact ⟨ret_nib ⟨e2.1.symm, e2.2.symm⟩, (Below.refl _ _).alloc (Nat.le_refl _) _⟩
      · have hb : (hfig (k : Int) == r) = false := by simpa using he
        have HE : Hid (∀ j : Nat, j < k + 1 → hfig j ≠ r) := Lib.hid fun j hj => by
          by_cases h : j < k
          · exact hno.out j h
          · obtain rfl : j = k := by omega
            exact he
        clear he hno
        go_wp2
        refine ⟨⟨k + 1, by omega, rfl, rfl, HE⟩, by simp; omega⟩
    · have hnx := fun ty => run_next_end (P := Tryd.prog) w { data := #[48, 49, 50, 51, 52, 53, 54, 55, 56, 57, 97, 98, 99, 100, 101, 102] } k ty (by have : ByteArray.size { data := #[48, 49, 50, 51, 52, 53, 54, 55, 56, 57, 97, 98, 99, 100, 101, 102] } = 16 := rfl; omega)
      obtain rfl : k = 16 := by omega
      have e2 := hnib_no (hwor_none hno.out)
      have HN := Lib.hid e2
      clear e2
      go_wp2
      go_ret2
      exact ⟨ret_nib ⟨HN.out.1.symm, HN.out.2.symm⟩, (Below.refl _ _).alloc (Nat.le_refl _) _⟩
end Go.Proofs.YtlggbicjgddnaaaDoor
