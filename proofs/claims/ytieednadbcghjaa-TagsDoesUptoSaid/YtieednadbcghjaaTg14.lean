/- Layer 19, the reference: small facts of two blocks, places and digests -/
import Derived.Test.YtieednadbcghjaaTg12
import Derived.Test.YtieednadbcghjaaTg13
set_option linter.unusedSimpArgs false
set_option linter.unusedVariables false
namespace Go.Proofs.Ytieednadbcghjaa
set_option linter.unusedVariables false
open Go.RowKit Go.Lib

/-- a row of the call's own that lies from block B on outlives whatever turns blocks below B -/
theorem Gw.iskeep {W W' : World} {B : Nat} {v : Value} {L : List Int} (h : Gw encI W B v L) (hk : ∀ b, B ≤ b → W'.heap[b]? = W.heap[b]?) : Gw encI W' B v L := by
  obtain ⟨hl, h2⟩ := h
  refine ⟨hl, ?_⟩
  rcases h2 with h2 | ⟨b, cap, cur, hv, hb, hgb, r⟩
  · exact Or.inl h2
  · exact Or.inr ⟨b, cap, cur, hv, hb, by rw [hk b hb]; exact hgb, r⟩
structure Bx2 (w w2 : World) (ca cz : Array Value) (ta tz : TypeId) (g1 : Nat) : Prop where
  a : w2.heap[w.heap.size]? = some (.cells ca ta (0, 0))
  z : w2.heap[g1]? = some (.cells cz tz (0, 0))
  le : Below w.heap.size w w2
  lt : w.heap.size < g1 ∧ g1 < w2.heap.size
theorem box2 (w : World) (ca cz : Array Value) (ta tz : TypeId) : ∃ w0 w2 g1, w.alloc (.cells ca ta) = w0 ∧ w0.alloc (.cells cz tz) = w2 ∧ w0.heap.size = g1 ∧ Bx2 w w2 ca cz ta tz g1 := by
  refine ⟨_, _, _, rfl, rfl, rfl, ?_⟩
  have b0 : Below w.heap.size w (w.alloc (.cells ca ta)) := (Below.refl _ _).alloc (Nat.le_refl _) _
  have b1 : Below (w.alloc (.cells ca ta)).heap.size (w.alloc (.cells ca ta)) ((w.alloc (.cells ca ta)).alloc (.cells cz tz)) := (Below.refl _ _).alloc (Nat.le_refl _) _
  have h0 := heap_alloc_new w (.cells ca ta)
  exact ⟨obj_later h0 b1, heap_alloc_new _ _, below_step b0 b1, by simp⟩
theorem len_nil {L : List Int} : L = [] ↔ ¬ (0 : Int) < (L.length : Int) := by
  cases L <;> simp <;> omega
theorem loc_eq (x y u : Int) (W : World) : (Op.equalIn 10000 31 (.agg (lcA x y u)) (.agg (lcA x y u))).run Try.prog W = .ok true W := by
  have u3 := Try.underlying3
  have a3 := Try.isAgg3
  have z3 := Try.sizeOf3
  have hS : Try.prog.underlying 31 = some (.struct (Try.prog.fieldsOf 31)) := by kernel_rfl
  have hp : Try.prog.stoodInHeld 31 = false := by kernel_rfl
  unfold lcA
  rw [show (10000 : Nat) = 9999 + 1 from rfl, run_equalIn_agg W 9999 31 _ _ hS hp]
  simp only [Program.fieldsOf, Try.underlying31]
  go_simp
theorem dig_refl (l : List Int) (h : dok l) (W : World) : (Op.equalIn 10000 29 (.agg (bcs l)) (.agg (bcs l))).run Try.prog W = .ok true W := by
  rw [digest_eq l l h h]; simp
theorem dz32_ok : dok dz32 := ⟨rfl, fun j => by
  unfold dz32
  by_cases hj : j < 32
  · rw [List.getD_eq_getElem?_getD, List.getElem?_replicate_of_lt hj]; simp
  · rw [List.getD_eq_getElem?_getD, List.getElem?_eq_none (by simp; omega)]; simp⟩
end Go.Proofs.Ytieednadbcghjaa
