/- Walks of the reference of layer 3: figure, Text. -/
import Derived.Test.YtlggbicjgddnaaaDoorHexW1
namespace Go.Proofs.YtlggbicjgddnaaaDoor
set_option linter.unusedVariables false
open Go.RowKit Go.Lib

theorem wrap_u8_in {x : Int} (h0 : 0 ≤ x) (h1 : x < 256) : IntKind.u8.wrap x = x := by
  have e1 : IntKind.u8.signed = false := rfl
  have e2 : (2 ^ IntKind.u8.bits : Int) = 256 := by decide
  simp only [IntKind.wrap, e1, e2, Bool.false_and, Bool.false_eq_true, if_false]
  omega

theorem bytes_two {x y : Int} (h0 : 0 ≤ x) (h1 : x < 256) (h2 : 0 ≤ y) (h3 : y < 256) : ∀ j, 0 ≤ [x, y].getD j 0 ∧ [x, y].getD j 0 < 256 := by
  intro j
  match j with
  | 0 => exact ⟨h0, h1⟩
  | 1 => exact ⟨h2, h3⟩
  | j + 2 => simp
theorem bs_two (w : World) (x y : Int) (t : TypeId) (h0 : 0 ≤ x) (h1 : x < 256) (h2 : 0 ≤ y) (h3 : y < 256) : Bs (w.alloc (.cells #[.int .u8 x, .int .u8 y] t)) (some ⟨w.heap.size, 0, none⟩) 2 [x, y] :=
  bs_lit w t _ _ 2 rfl (by unfold maxLen; omega) (bytes_two h0 h1 h2 h3) rfl

theorem hfigure_any (n : Int) (w : World) (h0 : 0 ≤ n) (h1 : n < 16) :
    Calls Tryd.prog 46 #[.int .u8 n] w fun e w' => e = .returned (.int .u8 (hfig n)) ∧ w = w' := by
  by_cases h : n < 10
  · have e : hfig n = 48 + n := by unfold hfig; rw [if_pos h]
    rw [e]
    go_enter Tryd.func46, Tryd.ntmps46
    go_wp2
    go_ret
    exact ⟨rfl, rfl⟩
  · have e : hfig n = 87 + n := by unfold hfig; rw [if_neg h]
    have h2 : 10 ≤ n := by omega
    have e2 : decide (n < 10) = false := by simp; omega
    rw [e]
    go_enter Tryd.func46, Tryd.ntmps46
    go_wp2
    go_ret
    exact ⟨ret_int (by omega), rfl⟩

set_option maxHeartbeats 2000000 in
set_option maxRecDepth 100000 in
theorem hreftext_any (p : Option Addr) (len cap : Nat) (zs : List Int) (w : World) (h : Bs w p len zs) (hlen : len ≤ 70368744177663) :
    Calls Tryd.prog 28 #[.slice p len cap] w fun e w' => e = .returned (.string (strOfNums (hexs zs))) ∧ Below w.heap.size w w' := by
  have H := Lib.hid h
  have HL := Lib.hid h.len
  clear h
  go_enter Tryd.func28, Tryd.ntmps28
  go_wp2
  go_loopw [3, 4] (fun v i wr => ∃ k : Nat, k ≤ len ∧ i = .int .i64 k ∧ Hid (Ob wr w.heap.size 5 v (hexs (zs.take k))) ∧ Hid (Below w.heap.size w wr)) (fun _ i _ => len - (intOf i).toNat)
  case atStart => exact ⟨0, Nat.zero_le _, rfl, Lib.hid (by simpa [hexs] using Ob.nil _ _ _), Lib.hid (Below.refl _ _)⟩
  case round =>
    obtain ⟨k, hk, rfl, hu, hbl⟩ := hrel
    by_cases hlt : k < len
    · obtain ⟨y, hy⟩ : ∃ y, zs.getD k 0 = y := ⟨_, rfl⟩
      have hyb := H.out.byte k
      obtain ⟨b0, off, rfl, HC⟩ : ∃ b0 off, p = some ⟨b0, off, none⟩ ∧ Hid (∀ W, Below w.heap.size w W → W.cell? ⟨b0, off + k, none⟩ = some (.int .u8 y)) := by
        rcases H.out.2.2 with hc | ⟨b0, off, rfl, hc⟩
        · omega
        · refine ⟨b0, off, rfl, Lib.hid fun W hW => ?_⟩
          rw [hW.cell (World.block_lt_of_cell? w _ (hc k hlt)), hc k hlt, hy]
      have hck := HC.out _ hbl.out
      rw [hy] at hyb
      have HY := Lib.hid hy
      clear hy
      have hf1 := hfig_bd (n := y / 16) (by omega) (by omega)
      have hf2 := hfig_bd (n := y % 16) (by omega) (by omega)
      have HT := Lib.hid (hexs_take (zs := zs) (k := k) (by rw [HL.out]; exact hlt))
      have hl0 : (hexs (zs.take k)).length = 2 * k := by rw [hexs_length, List.length_take, HL.out]; omega
      have hl1 : (hexs (zs.take k)).length + 2 ≤ 140737488355328 := by omega
      have hs := hbl.out.size
      have hd1 : 0 ≤ y / 16 ∧ y / 16 < 16 := by omega
      have hd2 : 0 ≤ y % 16 ∧ y % 16 < 16 := by omega
      have hq1 : IntKind.u8.wrap (y.tdiv 16) = y / 16 := by rw [Int.tdiv_eq_ediv_of_nonneg hyb.1]; exact wrap_u8_in (by omega) (by omega)
      have hq2 : y.tmod 16 = y % 16 := Int.tmod_eq_emod_of_nonneg hyb.1
      have c1 : wr.drew.cell? ⟨b0, off + k, none⟩ = some (.int .u8 y) := hck
      have hW : Below w.heap.size w (wr.alloc (.cells #[.int .u8 (hfig (y / 16)), .int .u8 (hfig (y % 16))] 5)).drew := (hbl.out.alloc hs _).drew
      have HW := Lib.hid hW
      have c2 := HC.out _ hW
      have hs2 := hW.size
      have HO : Hid (Ob (wr.alloc (.cells #[.int .u8 (hfig (y / 16)), .int .u8 (hfig (y % 16))] 5)).drew w.heap.size 5 u3 (hexs (zs.take k))) := Lib.hid (hu.out.later (((Below.refl _ _).alloc (Nat.le_refl _) _).drew))
      have HN : Hid (Bs (wr.alloc (.cells #[.int .u8 (hfig (y / 16)), .int .u8 (hfig (y % 16))] 5)).drew (some ⟨wr.heap.size, 0, none⟩) 2 [hfig (y / 16), hfig (y % 16)]) := Lib.hid (bs_two wr _ _ _ hf1.1 hf1.2 hf2.1 hf2.2)
      have hpc : (some (⟨wr.heap.size, 0, none⟩ : Addr)) = none → 2 = 0 := by simp
      have HP := Lib.hid hpc
      clear hW hpc
      go_wp2
      go_region_held3 (fun W => W.cell? ⟨b0, off + k, none⟩ = some (.int .u8 y)) (first | exact c1 | exact c2 | exact c4 | assumption) (first
        | (go_at_call 46; refine (hfigure_any _ _ (by first | with_reducible exact hd1.1 | with_reducible exact hd2.1) (by first | with_reducible exact hd1.2 | with_reducible exact hd2.2)).mono ?_; rintro e w' ⟨rfl, rfl⟩)
        | (refine step_append_bytes rfl _ _ 22 5 rfl Tryd.underlying22 info8 w.heap.size _ (hexs (zs.take k)) rfl HO.out (some ⟨wr.heap.size, 0, none⟩) 2 2 [hfig (y / 16), hfig (y % 16)] rfl HN.out HP.out hl1 hs2 ?_; intro v' w' hob' hg'; have HO' := Lib.hid hob'; have HB' := Lib.hid (below_new HW.out HO.out hg' hs2); have c4 := HC.out _ HB'.out; clear hob' hg'))
      go_wp2
      refine ⟨⟨k + 1, by omega, by go_num, ?_, HB'⟩, by simp [intOf]; omega⟩
      rw [HT.out, HY.out]
      exact HO'
    · have e : k = len := by omega
      subst e
      have hu' := hu.out
      rw [← HL.out, List.take_length] at hu'
      obtain ⟨q, c, hv, _, _, hbs, _⟩ := hu'.open
      subst hv
      have hcv := hbs.run_string (P := Tryd.prog) 22 5 9 Tryd.underlying22 Tryd.underlying5 Tryd.underlying9 c
      clear hu' hbs hu
      go_wp2
      go_ret
      exact ⟨rfl, hbl.out⟩
end Go.Proofs.YtlggbicjgddnaaaDoor
