/- Digests compared. -/
import Derived.Test.YtmhijcciblhjbaaDoorShaL
import Derived.ChangeKeysEq
namespace Go.Proofs.YtmhijcciblhjbaaDoor
set_option linter.unusedVariables false
open Go.RowKit Go.Lib

theorem key8 (D : Nat) (x : Int) (h : 0 ≤ x ∧ x < 256) : Tryd.prog.keyLits (D + 1) 5 [.int .u8 x] = some [.int .u8 x] := by
  unfold Program.keyLits
  rw [Tryd.underlying5]
  simp [Lit.wf, IntKind.min, IntKind.max, IntKind.signed, IntKind.bits]
  omega
theorem mapM_keys (P : Program) (D : Nat) (e : TypeId) (f : Nat → List Value) (g : Nat → List Lit) : ∀ is : List Nat, (∀ i ∈ is, P.keyLits D e (f i) = some (g i)) → is.mapM (fun i => P.keyLits D e (f i)) = some (is.map g)
  | [], _ => rfl
  | i :: is, h => by
    rw [List.mapM_cons, h i (by simp), mapM_keys P D e f g is (fun j hj => h j (by simp [hj]))]
    rfl
theorem info8' : ∃ i, Tryd.prog.info? 5 = some i := info_of_underlying Tryd.underlying5
theorem cells8 : Tryd.prog.cellsOf 5 = 1 := by kernel_rfl
theorem plain8 : Tryd.prog.plainKey 5 = true := by kernel_rfl
theorem digest_same (l : List Int) (hl : l.length = 32) (hb : ∀ j, 0 ≤ l.getD j 0 ∧ l.getD j 0 < 256) (W : World) : (Op.equalIn 10000 24 (.agg (bcs l)) (.agg (bcs l))).run Tryd.prog W = .ok true W := by
  obtain ⟨i, hi⟩ := info8'
  rw [run_equalIn_array W 9999 (bcs l) (bcs l) Tryd.underlying24 hi]
  have hm := mapM_keys Tryd.prog 1 5 (fun i => (((bcs l).toList.drop (i * Tryd.prog.cellsOf 5)).take (Tryd.prog.cellsOf 5))) (fun i => [.int .u8 (l.getD i 0)]) (List.range 32) (fun i hi => by
    have hi' : i < l.length := by rw [hl]; exact List.mem_range.1 hi
    rw [cells8, Nat.mul_one]
    have e : ((bcs l).toList.drop i).take 1 = [.int .u8 (l.getD i 0)] := by
      simp only [bcs, List.toList_toArray]
      rw [List.drop_eq_getElem_cons (by simpa using hi')]
      simp [List.getD_eq_getElem?_getD, hi']
    rw [e]
    exact key8 0 _ (hb i))
  obtain ⟨r, hr, hr2⟩ := run_eqItems_plain W 9998 plain8 (bcs l) (bcs l) (List.range 32) _ _ hm hm
  rw [hr]
  rw [hr2.2 rfl]

theorem dig_bytes (S : St) : ∀ j, 0 ≤ (dig S).getD j 0 ∧ (dig S).getD j 0 < 256 := by
  intro j
  by_cases hj : j < 32
  · have h := dig_get S (j / 4) (j % 4) (by omega) (by omega)
    rw [show 4 * (j / 4) + j % 4 = j by omega] at h
    rw [h]
    omega
  · rw [List.getD_eq_getElem?_getD, List.getElem?_eq_none (by rw [dig_length]; omega)]
    simp
theorem sha_same (zs : List Int) (W : World) : (Op.equalIn 10000 24 (.agg (bcs (shaS zs))) (.agg (bcs (shaS zs)))).run Tryd.prog W = .ok true W := digest_same _ (shaS_length zs) (dig_bytes _) W

/-- the zero digest -/
def zD : List Int := List.replicate 32 0
theorem zD_same (W : World) : (Op.equalIn 10000 24 (.agg (bcs zD)) (.agg (bcs zD))).run Tryd.prog W = .ok true W := digest_same _ (by simp [zD]) (bytes_replicate 32) W
theorem ssum_nil' (w : World) : Calls Tryd.prog 10 #[.pointer none] w fun e w' => e = .returned (.agg (bcs zD)) ∧ Below w.heap.size w w' := ssum_nil w
end Go.Proofs.YtmhijcciblhjbaaDoor
