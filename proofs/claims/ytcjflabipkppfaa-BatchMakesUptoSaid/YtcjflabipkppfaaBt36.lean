/- Rows that are grown ahead: 'append(s[:cap(s)], make([]T, k)...)' where s is nil -/
import Derived.Test.YtcjflabipkppfaaBt13
import Derived.Lib.AppendZerosOnto
set_option linter.unusedSimpArgs false
set_option linter.unusedVariables false
namespace Go.Proofs.Ytcjflabipkppfaa
set_option linter.unusedVariables false
open Go.RowKit Go.Lib
variable {α : Type}

theorem zeroCells_size (cs : Array Value) (n : Nat) : (Builtin.zeroCells cs n).size = n * cs.size := by
  simp [Builtin.zeroCells]
/-- a row of which nothing is used yet -/
theorem Gw.room (E : Ec α) (w : World) (cs : Array Value) (c : Nat) (hs : cs.size = c * E.k) (hc : c ≤ maxLen) : Gw E (w.alloc (.cells cs E.t)) w.heap.size (.slice (some ⟨w.heap.size, 0, none⟩) 0 c) [] :=
  Gw.mk (L := []) (Nat.le_refl _) (Nat.zero_le _) hc (heap_alloc_new _ _) hs (by simp [Ec.flat])
/-- 'append(s, make([]T, k)...)', s nil. -/
theorem wpList_append_zeros_nil (E : Ec α) {P : Program} {w : World} {ops : Array Oper} {rest : List Oper} {o : Oper} {a : Act} {Q : Exit → Act → World → Prop} (hgd : o.guard = none) (s x : Operand) (t tn : TypeId)
    (ho : o.op = .call { callee := .builtin .append, args := #[s, x], argTypes := #[t, tn] }) (ht : P.underlying t = some (.slice E.t)) (htn : P.underlying tn = some (.int .i64))
    (z : Value) (by_ : Nat) (hinfo : (P.info? E.t).map (fun i => (i.zero, i.size, i.bytes)) = some (some z, E.k, by_)) (hzs : z.cells.size = E.k) (hby : by_ ≤ 4096)
    (hs : a.eval s = .slice none 0 0) (k : Nat) (hx : a.eval x = .int .i64 (k : Int)) (hk : 0 < k) (hk2 : k ≤ 2097153)
    (h : ∀ c w', k ≤ c → c ≤ maxLen → Gw E w' w.heap.size (.slice (some ⟨w.heap.size, 0, none⟩) 0 c) [] → Below w.heap.size w w' → wpList P ops Q rest (a.put o.dst (.slice (some ⟨w.heap.size, 0, none⟩) k c)) w') : wpList P ops Q (o :: rest) a w := by
  obtain ⟨i, hi, hzz⟩ := Option.map_eq_some_iff.1 hinfo
  simp only [Prod.mk.injEq] at hzz
  obtain ⟨hz, hsz, hb⟩ := hzz
  have hE := E.pos
  have hbb : (0 + k) * by_ ≤ 140737488355328 := Nat.le_trans (Nat.mul_le_mul (show 0 + k ≤ 2097153 by omega) hby) (by decide)
  have hbb0 : k * by_ ≤ 140737488355328 := by simpa using hbb
  have hr := run_append_grow_zeros (P := P) w t tn o.type E.t i z .i64 .i64 ht htn hi hz none 0 0 [] (by simp [Builtin.firstCells]) k hk (by omega) (by omega) (by omega) (by rw [hb]; omega) (by rw [hb]; exact growslice_fits (by omega) hbb)
  have hge := grownCap_ge w (0 + k) 0 E.t
  have hcm : grownCap w (0 + k) 0 E.t ≤ maxLen := grownCap_le_maxLen w (0 + k) 0 E.t (by unfold maxLen; omega)
  refine wpList_append_run w hgd s x t tn ho _ _ hs hx _ _ hr ?_
  rw [Nat.zero_add] at *
  refine h _ _ hge hcm ?_ (((Below.refl _ _).drew).alloc (Nat.le_refl _) _)
  refine Gw.room E w.drew _ _ ?_ hcm
  simp only [Array.size_append, zeroCells_size, List.size_toArray, List.length_nil, hzs]
  rw [Nat.zero_add, ← Nat.add_mul]
  congr 1
  omega
end Go.Proofs.Ytcjflabipkppfaa
