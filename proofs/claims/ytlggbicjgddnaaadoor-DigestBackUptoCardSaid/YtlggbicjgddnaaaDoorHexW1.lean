/- Walks of package hex: Text; of its reference: figure, Text. -/
import Derived.Test.YtlggbicjgddnaaaDoorBldG
import Derived.Test.YtlggbicjgddnaaaDoorHexP
import Derived.Test.YtlggbicjgddnaaaDoorReg
namespace Go.Proofs.YtlggbicjgddnaaaDoor
set_option linter.unusedVariables false
open Go.RowKit Go.Lib

theorem bGrow_int (B b : Nat) (x : Int) (w : World) (hB : B ≤ b) (hbk : w.heap[b]? = some (.cells #[.pointer none, .slice none 0 0] 71 (0, 0))) (hBw : B ≤ w.heap.size) (h0 : 0 ≤ x) (hn : x ≤ 281474976710656) :
    Calls Tryd.prog 43 #[.pointer (some ⟨b, 0, none⟩), .int .i64 x] w fun e w' => e = .returned (.tuple #[]) ∧ Bu w' B b [] ∧ Below B w w' := by
  obtain ⟨n, rfl⟩ := Int.eq_ofNat_of_zero_le h0
  exact bGrow_fresh B b n w hB hbk hBw (by omega)

/-- The constant string of the figures, at an index below 16. -/
theorem run_digit (W : World) (n : Int) (h0 : 0 ≤ n) (h1 : n < 16) :
    (Instr.index 9 (.string { data := #[48, 49, 50, 51, 52, 53, 54, 55, 56, 57, 97, 98, 99, 100, 101, 102] }) (.int .u8 n)).run Tryd.prog W = .ok (.int .u8 (hfig n)) W := by
  rw [run_index_string W 9 _ .u8 n Tryd.underlying9, dif_pos ⟨h0, by simpa [ByteArray.size] using h1⟩]
  obtain ⟨k, rfl⟩ := Int.eq_ofNat_of_zero_le h0
  have hk : k = 0 ∨ k = 1 ∨ k = 2 ∨ k = 3 ∨ k = 4 ∨ k = 5 ∨ k = 6 ∨ k = 7 ∨ k = 8 ∨ k = 9 ∨ k = 10 ∨ k = 11 ∨ k = 12 ∨ k = 13 ∨ k = 14 ∨ k = 15 := by omega
  rcases hk with rfl | rfl | rfl | rfl | rfl | rfl | rfl | rfl | rfl | rfl | rfl | rfl | rfl | rfl | rfl | rfl <;> rfl

set_option maxRecDepth 100000 in
theorem htext_any (p : Option Addr) (len cap : Nat) (zs : List Int) (w : World) (h : Bs w p len zs) (hlen : len ≤ 70368744177663) :
    Calls Tryd.prog 27 #[.slice p len cap] w fun e w' => e = .returned (.string (strOfNums (hexs zs))) ∧ Below w.heap.size w w' := by
  have H := Lib.hid h
  have HL := Lib.hid h.len
  clear h
  go_enter Tryd.func27, Tryd.ntmps27
  go_wp2_with (go_at_call 43; refine (bGrow_int w.heap.size _ _ _ (Nat.le_refl _) (heap_alloc_new w _) (by simp) (by omega) (by omega)).mono ?_; rintro e w1 ⟨rfl, hbu, hb⟩)
  have HB : Hid (Below w.heap.size w w1) := Lib.hid (((Below.refl _ _).alloc (Nat.le_refl _) _).trans hb)
  have HU := Lib.hid hbu
  clear hb hbu
  go_loopw [12] (fun i wr => ∃ k : Nat, k ≤ len ∧ i = .int .i64 k ∧ Hid (Bu wr w.heap.size w.heap.size (hexs (zs.take k))) ∧ Hid (Below w.heap.size w wr)) (fun i _ => len - (intOf i).toNat)
  case atStart => exact ⟨0, Nat.zero_le _, rfl, by simpa [hexs] using HU, HB⟩
  case round =>
    obtain ⟨k, hk, rfl, hu, hbl⟩ := hrel
    by_cases hlt : k < len
    · have hbs := H.out.later hbl.out
      obtain ⟨_, hby, hc⟩ := hbs
      rcases hc with hc | ⟨b0, off, rfl, hc⟩
      · omega
      have hck := hc k hlt
      obtain ⟨y, hy⟩ : ∃ y, zs.getD k 0 = y := ⟨_, rfl⟩
      have hyb := H.out.byte k
      rw [hy] at hck hyb
      have HY := Lib.hid hy
      clear hc hby hy
      have hx1 : ∀ W, (Instr.index 9 (.string { data := #[48, 49, 50, 51, 52, 53, 54, 55, 56, 57, 97, 98, 99, 100, 101, 102] }) (.int .u8 (y / 16))).run Tryd.prog W = .ok (.int .u8 (hfig (y / 16))) W := fun W => run_digit W _ (by omega) (by omega)
      have hx2 : ∀ W, (Instr.index 9 (.string { data := #[48, 49, 50, 51, 52, 53, 54, 55, 56, 57, 97, 98, 99, 100, 101, 102] }) (.int .u8 (y % 16))).run Tryd.prog W = .ok (.int .u8 (hfig (y % 16))) W := fun W => run_digit W _ (by omega) (by omega)
      have hf1 := hfig_bd (n := y / 16) (by omega) (by omega)
      have hf2 := hfig_bd (n := y % 16) (by omega) (by omega)
      have HT := Lib.hid (hexs_take (zs := zs) (k := k) (by rw [HL.out]; exact hlt))
      have hl0 : (hexs (zs.take k)).length = 2 * k := by rw [hexs_length, List.length_take, HL.out]; omega
      have hl1 : (hexs (zs.take k)).length + 1 ≤ 140737488355328 := by omega
      have hl2 : (hexs (zs.take k) ++ [hfig (y / 16)]).length + 1 ≤ 140737488355328 := by rw [List.length_append, List.length_singleton]; omega
      have hs := hbl.out.size
      go_wp2_with fail
      refine (bwrite_any w.heap.size w.heap.size _ _ _ hu.out hf1.1 hf1.2 hl1 hs).mono ?_
      rintro e w2 ⟨rfl, hb2, hbl2⟩
      have HU2 := Lib.hid hb2
      have hbl2' := hbl.out.trans hbl2
      have hs2 := hbl2'.size
      have HB2 := Lib.hid hbl2'
      clear hb2 hbl2 hbl2'
      go_wp2_with fail
      refine (bwrite_any w.heap.size w.heap.size _ _ _ HU2.out hf2.1 hf2.2 hl2 hs2).mono ?_
      rintro e w3 ⟨rfl, hb3, hbl3⟩
      have HU3 := Lib.hid hb3
      have HB3 := Lib.hid (HB2.out.trans hbl3)
      clear hb3 hbl3
      go_wp2
      refine ⟨⟨k + 1, by omega, by go_num, ?_, HB3⟩, by simp [intOf]; omega⟩
      have := HU3.out
      rw [List.append_assoc] at this
      rw [HT.out, HY.out]
      exact Lib.hid this
    · have e : k = len := by omega
      subst e
      have hs := hbl.out.size
      have hu' := hu.out
      rw [← HL.out, List.take_length] at hu'
      have HU' := Lib.hid hu'
      clear hu'
      go_wp2_with fail
      refine (bstring_any w.heap.size w.heap.size _ _ HU'.out hs).mono ?_
      rintro e w2 ⟨rfl, hb2⟩
      have HB2 := Lib.hid (hbl.out.trans hb2)
      clear hb2
      go_wp2
      go_ret
      exact ⟨rfl, HB2.out⟩
end Go.Proofs.YtlggbicjgddnaaaDoor
