/- The walks of padding and New. -/
import Derived.Test.YtlggbicjgddnaaaDoorShaW3
namespace Go.Proofs.YtlggbicjgddnaaaDoor
set_option linter.unusedVariables false
open Go.RowKit Go.Lib

/-- what padding has written behind i steps -/
def padL (n i : Nat) : List Int := 128 :: (List.replicate (padZ n + 8 - i) 0 ++ (be64 (8 * n)).drop (8 - i))
theorem be64_length (n : Nat) : (be64 n).length = 8 := by simp [be64]
theorem padL_zero (n : Nat) : (List.replicate (9 + padZ n) (0 : Int)).set 0 128 = padL n 0 := by
  unfold padL
  rw [List.drop_of_length_le (by rw [be64_length]; omega), List.append_nil, show 9 + padZ n = (padZ n + 8 - 0) + 1 by omega, List.replicate_succ, List.set_cons_zero]
theorem padL_length (n i : Nat) (h : i ≤ 8) : (padL n i).length = 9 + padZ n := by
  simp [padL, be64_length]; omega
theorem padL_end (n : Nat) : padL n 8 = padOf n := by
  unfold padL padOf
  rw [Nat.sub_self, List.drop_zero, Nat.add_sub_cancel]
theorem be64_drop (n i : Nat) (h : i < 8) : (be64 n).drop (7 - i) = (((n / 2 ^ (8 * i)) % 256 : Nat) : Int) :: (be64 n).drop (8 - i) := by
  match i, h with
  | 0, _ => rfl
  | 1, _ => rfl
  | 2, _ => rfl
  | 3, _ => rfl
  | 4, _ => rfl
  | 5, _ => rfl
  | 6, _ => rfl
  | 7, _ => rfl
theorem set_last (m : Nat) (x : Int) (r : List Int) : (List.replicate (m + 1) (0 : Int) ++ r).set m x = List.replicate m 0 ++ x :: r := by
  rw [List.replicate_succ', List.append_assoc, List.set_append_right _ _ (by simp)]
  simp
theorem padL_set (n i : Nat) (h : i < 8) : (padL n i).set (8 + padZ n - i) ((((8 * n) / 2 ^ (8 * i)) % 256 : Nat) : Int) = padL n (i + 1) := by
  unfold padL
  rw [show 8 + padZ n - i = (padZ n + 7 - i) + 1 by omega, List.set_cons_succ, show padZ n + 8 - i = (padZ n + 7 - i) + 1 by omega, set_last, show 8 - (i + 1) = 7 - i by omega, be64_drop _ _ h, show padZ n + 8 - (i + 1) = padZ n + 7 - i by omega]

set_option maxRecDepth 100000 in
theorem spad_any (n : Nat) (w : World) (hn : n < 1152921504606846976) :
    Calls Tryd.prog 52 #[.int .i64 (n : Int)] w fun e w' => (∃ c, e = .returned (.slice (some ⟨w.heap.size, 0, none⟩) (9 + padZ n) c) ∧ 9 + padZ n ≤ c ∧ c ≤ maxLen ∧ Ob w' w.heap.size 5 (.slice (some ⟨w.heap.size, 0, none⟩) (9 + padZ n) c) (padOf n)) ∧ Below w.heap.size w w' := by
  obtain ⟨z, hz⟩ : ∃ z, padZ n = z := ⟨_, rfl⟩
  have hz1 : z < 64 := by rw [← hz]; unfold padZ; omega
  have hz2 : ((119 - (n : Int) % 64) % 64) = (z : Int) := by rw [← hz]; unfold padZ; omega
  have HZ := Lib.hid hz
  have HN := Lib.hid hn
  clear hz
  go_enter Tryd.func52, Tryd.ntmps52
  go_wp2_with (refine wpList_make_bytes _ rfl _ _ 22 5 rfl Tryd.underlying22 info8 .i64 .i64 _ _ (9 + z) (9 + z) rfl rfl (by omega) (by omega) (Nat.le_refl _) (by omega) ?_; intro w1 hob1 hg1; have HOB := Lib.hid hob1; have HB := Lib.hid (below_none hg1); obtain ⟨hc0, hf0⟩ := hob1.cell 0 (by omega); clear hob1 hg1)
  go_loopw [20] (fun i wr => ∃ k : Nat, k ≤ 8 ∧ i = .int .i64 k ∧ Hid (Ob wr w.heap.size 5 (.slice (some ⟨w.heap.size, 0, none⟩) (9 + z) (9 + z)) (padL n k)) ∧ Hid (Below w.heap.size w wr)) (fun i _ => 8 - (intOf i).toNat)
  case atStart =>
    refine ⟨0, by omega, rfl, Lib.hid ?_, Lib.hid (HB.out.setCell (p := ⟨w.heap.size, 0, none⟩) (Nat.le_refl _) _)⟩
    have h := HOB.out.set 0 (by omega) 128 (by omega) (by omega)
    rw [← HZ.out, padL_zero] at h
    rw [← HZ.out]
    exact h
  case round =>
    obtain ⟨k, hk, rfl, hob, hbl⟩ := hrel
    by_cases hlt : k < 8
    · obtain ⟨hc, hf⟩ := hob.out.cell (8 + z - k) (by omega)
      have hlt' : (k : Int) < 8 := by omega
      go_wp2
      have hv : (n : Int) * 8 / 2 ^ (8 * k) % 256 = ((((8 * n) / 2 ^ (8 * k)) % 256 : Nat) : Int) := by
        rw [Nat.mul_comm 8 n, Int.natCast_emod, Int.natCast_ediv, Int.natCast_mul, Int.natCast_pow]
        rfl
      rw [hv]
      have hlt2 := Nat.mod_lt ((8 * n) / 2 ^ (8 * k)) (show 256 > 0 by decide)
      have h := hob.out.set (8 + z - k) (by omega) ((((8 * n) / 2 ^ (8 * k)) % 256 : Nat) : Int) (by omega) (by omega)
      rw [← HZ.out, padL_set n k hlt, HZ.out] at h
      exact ⟨⟨k + 1, by omega, by go_num, Lib.hid h, Lib.hid (hbl.out.setCell (p := ⟨w.heap.size, 8 + z - k, none⟩) (Nat.le_refl _) _)⟩, by simp [intOf]; omega⟩
    · obtain rfl : k = 8 := by omega
      go_wp2
      go_ret
      have h := hob.out
      rw [padL_end] at h
      rw [HZ.out]
      exact ⟨⟨9 + z, rfl, Nat.le_refl _, by unfold maxLen; omega, h⟩, hbl.out⟩

/-- the cells of a hash -/
def hcs (s : St) (blk : List Int) (n : Nat) : List Value := s.list.map uv ++ (blk.map (Value.int .u8) ++ [.int .i64 (n : Int)])
/-- block b is a hash on the way -/
def Hb (w : World) (b : Nat) (s : St) (blk : List Int) (n : Nat) : Prop := blk.length = 64 ∧ (∀ j, 0 ≤ blk.getD j 0 ∧ blk.getD j 0 < 256) ∧ w.heap[b]? = some (.cells (hcs s blk n).toArray 83 (0, 0))
/-- .. of these bytes -/
def Hw (w : World) (b : Nat) (zs : List Int) : Prop := ∃ blk, Hb w b (runS kS hS zs (zs.length / 64)) blk zs.length ∧ blk.take (zs.length % 64) = zs.drop (64 * (zs.length / 64))

theorem wpList_build_is {P : Program} {ops : Array Oper} {rest : List Oper} {o : Oper} {a : Act} {w : World} {Q : Exit → Act → World → Prop} (hg : o.guard = none) (t : TypeId) (parts : Array (Nat × Operand)) (ho : o.op = .build t parts) (cells : Array Value)
    (hf : P.built t (parts.map fun (i, x) => (i, a.eval x)).toList = some cells)
    (h : wpList P ops Q rest (a.put o.dst (.agg cells)) w) : wpList P ops Q (o :: rest) a w :=
  wpList_build hg t parts ho (by rw [hf]; rfl) (by rw [hf]; exact h)

set_option maxRecDepth 100000 in
theorem snew_any (w : World) :
    Calls Tryd.prog 38 #[] w fun e w' => e = .returned (.pointer (some ⟨w.heap.size, 0, none⟩)) ∧ Hw w' w.heap.size [] ∧ Below w.heap.size w w' := by
  go_enter Tryd.func38, Tryd.ntmps38
  go_wp2_with (refine wpList_build_is rfl 83 _ rfl (hcs hS (List.replicate 64 0) 0).toArray ?_ ?_; kernel_rfl)
  go_ret
  refine ⟨rfl, ⟨List.replicate 64 0, ⟨by simp, bytes_replicate 64, heap_alloc_new _ _⟩, rfl⟩, (Below.refl _ _).alloc (Nat.le_refl _) _⟩
end Go.Proofs.YtlggbicjgddnaaaDoor
