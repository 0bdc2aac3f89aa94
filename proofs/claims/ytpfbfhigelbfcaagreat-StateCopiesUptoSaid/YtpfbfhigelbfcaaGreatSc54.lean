/- Arguments of layer 19, opened: numbers, places, words. (cut out of EntI); Layer 19, the laws' arguments, opened: rows of numbers, entries, words. (gen_enti.py); Layer 20, the laws' arguments, opened: rows of entries; Arguments of layer 19, opened: entries of names. (gen_enti.py); Layer 21, the laws' arguments, opened: rows of names' entries; Layer 22, the laws' arguments, opened: rows of entries,  -/
import Derived.Test.YtpfbfhigelbfcaaGreatSc1
import Derived.Test.YtpfbfhigelbfcaaGreatSc7
import Derived.Test.YtpfbfhigelbfcaaGreatSc9
import Derived.Test.YtpfbfhigelbfcaaGreatSc11
import Derived.Test.YtpfbfhigelbfcaaGreatSc53
import Derived.Lib.SmallJoins
set_option linter.unusedSimpArgs false
set_option linter.unusedVariables false
namespace Go.Proofs.YtpfbfhigelbfcaaGreat
open Go.RowKit Go.Lib Go.ChangeShapes Go.WideShapes Go.ChangeAt
section
variable {H : Type} {enc : TypeId × Value → H} {W : World} {base : Nat} {held : Bool}
set_option maxRecDepth 100000 in
theorem open_wdL (fuel : Nat) (cs : List Value) (x : DataW H × List MemPlace) (h : DataW.trod enc Tryz.prog W base (fun _ => true) held fuel 39 cs = some x) :
    ∃ e : Wq, cs = mixL e.a e.dg e.t ∧ dok e.dg := by
  obtain ⟨y0, y1, y2, y3, y4, y5, m, hx, hl, h0, h1, h2, h3, h4, h5⟩ := trod_structE6 Tryz.underlying39 h
  have ec : Tryz.prog.cellsOf 39 = 39 := by kernel_rfl
  rw [ec] at hl
  have e0 : Tryz.prog.cellsOf 3 = 1 := by kernel_rfl
  have e1 : Tryz.prog.cellsOf 22 = 1 := by kernel_rfl
  have e2 : Tryz.prog.cellsOf 35 = 32 := by kernel_rfl
  have e3 : Tryz.prog.cellsOf 9 = 1 := by kernel_rfl
  have e4 : Tryz.prog.cellsOf 37 = 3 := by kernel_rfl
  simp only [e0, e1, e2, e3, e4] at h0 h1 h2 h3 h4 h5
  have hc := cutWd cs hl
  have one : ∀ a, a < 39 → ∃ v, (cs.drop a).take 1 = [v] := fun a ha => by
    rw [List.drop_eq_getElem_cons (by omega)]
    exact ⟨_, rfl⟩
  obtain ⟨v0, q0⟩ := one 0 (by omega)
  rw [q0] at h0 hc
  obtain ⟨v1, q1⟩ := one 1 (by omega)
  rw [q1] at h1 hc
  obtain ⟨v3, q3⟩ := one 34 (by omega)
  rw [q3] at h3 hc
  obtain ⟨v4, q4⟩ := one 35 (by omega)
  rw [q4] at h4 hc
  obtain ⟨k, rfl, hw0⟩ := open_int' Tryz.underlying3 h0
  obtain ⟨s, rfl, hw1⟩ := open_int' Tryz.underlying22 h1
  obtain ⟨dg, hdg, hdc, _, _⟩ := open_dig h2
  obtain ⟨nm, rfl, hnm, _⟩ := open_str' Tryz.underlying9 h3
  obtain ⟨z, rfl, hw4⟩ := open_int' Tryz.underlying3 h4
  obtain ⟨a, b, c, hlc, ha, hb, hcc⟩ := open_locE h5
  refine ⟨⟨k, s, dg, nm, z, a, b, c⟩, ?_, hdg⟩
  rw [hc, hdc, hlc]
  rfl
end
section
variable {H : Type} {enc : TypeId × Value → H} {W : World} {base : Nat} {held : Bool}
end
section
variable {H : Type} {enc : TypeId × Value → H} {W : World} {base : Nat} {held : Bool}
end
section
variable {H : Type} {enc : TypeId × Value → H} {W : World} {base : Nat} {held : Bool}
end
section
variable {H : Type} {enc : TypeId × Value → H} {W : World} {base : Nat} {held : Bool}
end
section
variable {H : Type} {enc : TypeId × Value → H} {W : World} {base : Nat} {held : Bool}
end
end Go.Proofs.YtpfbfhigelbfcaaGreat

