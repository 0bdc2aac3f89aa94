/- The reference's blocks: what its rounds come to; Constants. -/
import Derived.Test.YtlggbicjgddnaaaDoorShaR1
import Derived.Test.YtlggbicjgddnaaaDoorNum
import Derived.Deep.DeepCutAuto
namespace Go.Proofs.YtlggbicjgddnaaaDoor
set_option linter.unusedVariables false
open Go.RowKit Go.Lib

theorem info32 : (Tryd.prog.info? 66).map (fun i => (i.zero, i.size, i.bytes)) = some (some (.int .u32 0), 1, 4) := by kernel_rfl
theorem kS_length : kS.length = 64 := rfl
theorem on_lit_at {k : IntKind} (w : World) (g B : Nat) (e : TypeId) (cs : Array Value) (l : List Nat) (n : Nat) (hg : w.heap.size = g) (hB : B ≤ w.heap.size) (hn : l.length = n) (hm : n ≤ maxLen) (hcs : cs.toList = l.map (nv k)) :
    On k (w.alloc (.cells cs e)) B e (.slice (some ⟨g, 0, none⟩) n n) l := by
  subst hg
  exact on_lit w B e cs l n hB hn hm hcs

set_option maxHeartbeats 4000000 in
set_option maxRecDepth 100000 in
theorem constants_any (w : World) (g1 g2 : Nat) (h1 : w.heap.size = g1) (h2 : w.heap.size + 1 = g2) :
    Calls Tryd.prog 25 #[] w fun e w' => e = .returned (.tuple #[.slice (some ⟨g1, 0, none⟩) 64 64, .slice (some ⟨g2, 0, none⟩) 8 8]) ∧ On .u32 w' w.heap.size 66 (.slice (some ⟨g1, 0, none⟩) 64 64) kS ∧ On .u32 w' w.heap.size 66 (.slice (some ⟨g2, 0, none⟩) 8 8) hS.list ∧ Below w.heap.size w w' := by
  subst h1 h2
  go_enter Tryd.func25, Tryd.ntmps25
  go_wp2
  go_ret2
  refine ⟨rfl, ?_, ?_, ((Below.refl _ _).alloc (Nat.le_refl _) _).alloc (by simp) _⟩
  · refine On.alloc (on_lit w w.heap.size 66 _ kS 64 (Nat.le_refl _) kS_length (by unfold maxLen; omega) ?_) _
    kernel_rfl
  · exact on_lit_at _ (w.heap.size + 1) w.heap.size 66 _ hS.list 8 (by simp) (by simp) rfl (by unfold maxLen; omega) rfl

/-- the eight words behind a round, as the reference lays them -/
theorem mixN_list (ks ws : List Nat) (s : St) (n : Nat) : (mixN ks ws s n).list.length = 8 := rfl

end Go.Proofs.YtlggbicjgddnaaaDoor
