/- The reference of layer 18: Row -/
import Derived.Test.YtfdmpbhgejahaaaSl7
import Derived.Test.YtfdmpbhgejahaaaSl11
import Derived.Test.YtfdmpbhgejahaaaSl21
set_option linter.unusedSimpArgs false
set_option linter.unusedVariables false
namespace Go.Proofs.Ytfdmpbhgejahaaa
set_option linter.unusedVariables false
open Go.RowKit Go.Lib

set_option maxRecDepth 100000 in
set_option maxHeartbeats 2000000 in
theorem rrow18_any (p : Option Addr) (n c : Nat) (s : Int) (L : List Px) (w : World) (h : Gs encPr w p n L) (hk : ∀ x ∈ L, dok x.1.dg) (hn : n ≤ 1048576) :
    Calls Try.prog 18 #[tabV p n c s] w fun e w' => ∃ v, e = .returned v ∧ Od w' w.heap.size v (drow (keysN (prL L))) ∧ Below w.heap.size w w' := by
  obtain ⟨wA, hA⟩ : ∃ W, w.alloc (.cells #[.slice p n c, .int .i64 s] 27) = W := ⟨_, rfl⟩
  have hbA : Below w.heap.size w wA := by rw [← hA]; exact (Below.refl _ _).alloc (Nat.le_refl _) _
  have hr : wA.heap[w.heap.size]? = some (.cells #[.slice p n c, .int .i64 s] 27 (0, 0)) := by rw [← hA]; exact heap_alloc_new _ _
  have hsz : wA.heap.size = w.heap.size + 1 := by rw [← hA]; simp
  have HC0 := Lib.hid fun W (hW : Below (w.heap.size + 1) wA W) => (by rw [cell_of_row W w.heap.size 0 _ _ _ ((hW.block _ (Nat.lt_succ_self _)).trans hr)]; rfl : W.cell? ⟨w.heap.size, 0, none⟩ = some (.slice p n c))
  have hn := hn
  have H := Lib.hid h
  have HK := Lib.hid hk
  have HBA := Lib.hid hbA
  have HSZ := Lib.hid hsz
  have HLL : Hid ((keysN (prL L)).length = n) := Lib.hid (by unfold keysN; rw [List.length_map, prL_length, h.len])
  have HRO := Lib.hid fun (q : Option Addr) (m c' : Nat) (M : List (List Int)) W (hW : Ds W q m M) (hm : m ≤ 1048576) => rrow_any q m c' M W hW hm
  unfold tabV
  have c0 := HC0.out wA (Below.refl _ _)
  clear h hk hbA hr hsz
  go_enter Try.func18, Try.ntmps18
  go_wp2
  clear c0 hA
  go_loopw [3, 4] (fun ov j wr => ∃ (k : Nat) (q : Option Addr) (m c' : Nat), k ≤ n ∧ j = .int .i64 (k : Int) ∧ ov = .slice q m c' ∧ Hid (Od wr (w.heap.size + 1) (.slice q m c') ((keysN (prL L)).take k)) ∧ Hid (Below (w.heap.size + 1) wA wr)) (fun _ j _ => n - (intS j).toNat)
  case atStart => exact ⟨0, none, 0, 0, by omega, rfl, rfl, Lib.hid (Od.nil _ _), Lib.hid (Below.refl _ _)⟩
  case round =>
    obtain ⟨k, q, m, c', hkn, rfl, rfl, HO, HB⟩ := hrel
    have c0 := HC0.out wr HB.out
    have hBB := below_step HBA.out (by rw [HSZ.out]; exact HB.out)
    by_cases hlt : k < n
    · obtain ⟨b1, off, y, rfl, hy1, hy2, hy3, hr⟩ := (H.out.later hBB).pr k hlt
      have HL1 := Lib.hid (pr_dig hr)
      have HDK := Lib.hid (HK.out y hy3)
      have HT : Hid ((keysN (prL L)).take (k + 1) = (keysN (prL L)).take k ++ [y.1.dg]) := Lib.hid (by
        have h1 : (keysN (prL L))[k]? = some y.1.dg := by unfold keysN; rw [List.getElem?_map, hy2]; rfl
        obtain ⟨h2, h3⟩ := List.getElem?_eq_some_iff.1 h1
        rw [List.take_succ_eq_append_getElem h2, h3])
      have HLK : Hid (((keysN (prL L)).take k).length ≤ 1048576) := Lib.hid (by rw [List.length_take, HLL.out]; omega)
      have hki : (k : Int) < (n : Int) := by omega
      have hk0 : (0 : Int) ≤ (k : Int) := by omega
      obtain ⟨d1, hd1⟩ : ∃ d, y.1.dg = d := ⟨_, rfl⟩
      rw [hd1] at HL1 HDK HT
      clear hr hy1 hy2 hy3 hd1 hBB
      go_wp2_with (first
        | (refine wpList_ld rfl 30 _ rfl _ rfl _ HL1.out ?_)
        | (refine wpList_build_dig rfl 44 18 rfl Try.underlying44 info24 d1 HDK.out.1 rfl ?_)
        | (refine wpList_append_digs rfl _ _ 44 rfl Try.underlying44 info24 (w.heap.size + 1) _ _ rfl (HO.out.alloc _) _ 1 1 [d1] rfl (Od.one wr (w.heap.size + 1) d1 HDK.out (by have := HB.out.size; have := HSZ.out; omega)).ds (fun h => by cases h) (by have := HLK.out; omega) (by have := HB.out.size; have := HSZ.out; rw [World.size_alloc]; omega) ?_; intro v8 w8 ho8 hg8; have HB8 := Lib.hid (below_new_od (HB.out.alloc (by have := HB.out.size; have := HSZ.out; omega) _) (HO.out.alloc _) hg8 (by have := HB.out.size; have := HSZ.out; rw [World.size_alloc]; omega)); rw [← HT.out] at ho8; obtain ⟨p8, c8, hv8, _⟩ := ho8.open; obtain ⟨mm8, hmm8⟩ : ∃ x, ((keysN (prL L)).take (k + 1)).length = x := ⟨_, rfl⟩; rw [hmm8] at hv8; subst hv8; have HO8 := Lib.hid ho8; clear ho8 hg8 hmm8))
      exact ⟨⟨k + 1, _, _, _, by omega, by go_num, rfl, HO8, HB8⟩, by simp [intS] <;> omega⟩
    · obtain rfl : k = n := by omega
      have e1 : (keysN (prL L)).take k = keysN (prL L) := List.take_of_length_le (by rw [HLL.out]; exact Nat.le_refl _)
      rw [e1] at HO
      have hm : m ≤ 1048576 := by rw [← HO.out.len, HLL.out]; exact hn
      have HRW := Lib.hid (HRO.out q m c' _ wr HO.out.ds hm)
      have HBB := Lib.hid hBB
      clear e1 hm hBB
      go_wp2_with fail
      refine HRW.out.mono ?_
      rintro e w8 ⟨v, rfl, ho, hb8⟩
      have HO8 := Lib.hid (ho.mono HBB.out.size)
      have HB8 := Lib.hid (below_step HBB.out hb8)
      clear ho hb8
      go_wp2
      go_ret
      exact ⟨_, rfl, HO8.out, HB8.out⟩
end Go.Proofs.Ytfdmpbhgejahaaa
