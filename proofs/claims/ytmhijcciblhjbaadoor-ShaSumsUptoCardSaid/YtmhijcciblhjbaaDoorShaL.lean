/- What all laws of layer 4 share: abc has its sum. -/
import Derived.Test.YtmhijcciblhjbaaDoorShaW7
import Derived.Lib.SlBytesConst
namespace Go.Proofs.YtmhijcciblhjbaaDoor
set_option linter.unusedVariables false
open Go.RowKit Go.Lib

def abcD : List Int := [186, 120, 22, 191, 143, 1, 207, 234, 65, 65, 64, 222, 93, 174, 34, 35, 176, 3, 97, 163, 150, 23, 122, 156, 180, 16, 255, 97, 242, 0, 21, 173]
theorem abc_bytes : ∀ j, 0 ≤ ([97, 98, 99] : List Int).getD j 0 ∧ ([97, 98, 99] : List Int).getD j 0 < 256 := by
  intro j
  match j with
  | 0 => exact ⟨by decide, by decide⟩
  | 1 => exact ⟨by decide, by decide⟩
  | 2 => exact ⟨by decide, by decide⟩
  | j + 3 => simp

theorem bs_lit_fr (w : World) (e : TypeId) (cs : Array Value) (fr : Nat × Nat) (xs : List Int) (n : Nat) (hn : xs.length = n) (hx : ∀ j, 0 ≤ xs.getD j 0 ∧ xs.getD j 0 < 256) (hcs : cs.toList = xs.map (Value.int .u8)) :
    Bs (w.alloc (.cells cs e fr)) (some ⟨w.heap.size, 0, none⟩) n xs := by
  refine ⟨hn, hx, Or.inr ⟨w.heap.size, 0, rfl, fun j hj => ?_⟩⟩
  rw [Nat.zero_add, cell_of_row _ _ _ cs e fr (heap_alloc_new _ _), ← Array.getElem?_toList, hcs]
  have : j < xs.length := by omega
  simp [List.getD_eq_getElem?_getD, this]

set_option maxRecDepth 100000 in
theorem slives_any (w : World) (hK : Kw w) : Calls Tryd.prog 7 #[] w fun e w' => e = .returned (.bool true) ∧ Below w.heap.size w w' := by
  have HK := Lib.hid hK
  have HPOS := Lib.hid hK.pos
  have hbs := bs_lit_fr w 5 #[.int .u8 97, .int .u8 98, .int .u8 99] (3, 4) [97, 98, 99] 3 rfl abc_bytes rfl
  have kc := fun (w : World) (C : Array Value) (n c : Nat) => Lib.run_convert_bytes_const (P := Tryd.prog) w 22 5 C n c Tryd.underlying22 Tryd.underlying5
  have hb0 : Below w.heap.size w (w.alloc (.cells #[.int .u8 97, .int .u8 98, .int .u8 99] 5 (3, 4))) := (Below.refl _ _).alloc (Nat.le_refl _) _
  have HBS := Lib.hid hbs
  have HB0 := Lib.hid hb0
  have HD : Hid (shaS [97, 98, 99] = abcD) := Lib.hid shaS_abc
  clear hK hbs hb0
  go_enter Tryd.func7, Tryd.ntmps7
  go_wp2_with fail
  refine (ssha_any (some ⟨w.heap.size, 0, none⟩) 3 3 [97, 98, 99] _ HBS.out (Nat.le_refl _) (by unfold maxLen; omega) (HK.out.later HB0.out HPOS.out) (by omega)).mono ?_
  rintro e w1 ⟨rfl, hb1⟩
  rw [HD.out]
  have HB1 := Lib.hid (below_step HB0.out hb1)
  have HZ1 : Hid ((Tryd.prog.info? 24).map (·.size) = some (bcs abcD).size) := Lib.hid (by rw [bcs_size]; exact size32)
  have HZ2 : Hid ((bcs (List.replicate 32 0)).size = (bcs abcD).size) := Lib.hid (by rw [bcs_size, bcs_size]; rfl)
  clear hb1
  go_wp2_with (refine wpList_store_row rfl 24 _ _ rfl w1.heap.size _ rfl rfl 24 _ (heap_alloc_new _ _) HZ1.out HZ2.out (bcs_one _) ?_; generalize hw2 : World.setRow _ _ _ = w2; have hy : Yw w2 w1.heap.size 24 abcD := (by rw [← hw2]; exact setRow_heap _ _ _ _ _ _ (heap_alloc_new _ _)); have HB2 : Hid (Below w.heap.size w w2) := (Lib.hid (by rw [← hw2]; exact below_setRow (HB1.out.alloc HB1.out.size _) _ _ HB1.out.size)); have c0 : w2.cell? ⟨w1.heap.size, 0, none⟩ = some (.int .u8 186) := hy.cell 0 (by decide); have c1 : w2.cell? ⟨w1.heap.size, 1, none⟩ = some (.int .u8 120) := hy.cell 1 (by decide); have c30 : w2.cell? ⟨w1.heap.size, 30, none⟩ = some (.int .u8 21) := hy.cell 30 (by decide); have c31 : w2.cell? ⟨w1.heap.size, 31, none⟩ = some (.int .u8 173) := hy.cell 31 (by decide); clear hw2 hy)
  go_ret
  exact ⟨rfl, HB2.out⟩
end Go.Proofs.YtmhijcciblhjbaaDoor
