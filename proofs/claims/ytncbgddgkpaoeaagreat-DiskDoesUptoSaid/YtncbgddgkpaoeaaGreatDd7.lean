/- Layer 9: the program's Right, Clone; append of bytes 0 -/
import Derived.Test.YtncbgddgkpaoeaaGreatDd5
import Derived.Test.YtncbgddgkpaoeaaGreatDd6
import Derived.Lib.AppendZerosOnto
import Derived.Lib.MinMax
import Derived.Lib.SliceRun
set_option linter.unusedSimpArgs false
set_option linter.unusedVariables false
namespace Go.Proofs.YtncbgddgkpaoeaaGreat
set_option linter.unusedVariables false
open Go.RowKit Go.Lib

set_option maxRecDepth 100000 in
theorem wright_any (c : Ch) (p : Option Addr) (n cap : Nat) (w : World) (h : chIn w c p n cap) :
    Calls Tryz.prog 116 #[chV c p n cap] w fun e w' => e = .returned (.bool (rightP c)) ∧ w.alloc (.cells #[.bool c.cut, .int .i64 c.off, .slice p n cap] 137) = w' := by
  obtain ⟨hb, _, hnc, hcm, ho⟩ := h
  have HR := Lib.hid (rightP_n hb.1)
  have hn : n ≤ 9223372036854775807 := by unfold maxLen at hcm; omega
  unfold InI64 at ho
  have hw : IntKind.i64.wrap (1048576 - (n : Int)) = 1048576 - (n : Int) := by simp [IntKind.wrap, IntKind.bits, IntKind.signed]; omega
  unfold chV
  generalize c.off = o at *
  generalize c.cut = b at *
  clear hb hnc hcm
  by_cases h1 : 0 ≤ o
  · by_cases h2 : o ≤ 1048576 - (n : Int)
    · have HF : Hid (rightP c = true) := Lib.hid (by rw [HR.out, decide_eq_true h1, decide_eq_true h2]; rfl)
      go_enter Tryz.func116, Tryz.ntmps116
      go_wp2
      go_ret
      exact ⟨by rw [HF.out]; rfl, rfl⟩
    · have HF : Hid (rightP c = false) := Lib.hid (by rw [HR.out, decide_eq_true h1, decide_eq_false h2]; rfl)
      go_enter Tryz.func116, Tryz.ntmps116
      go_wp2
      go_ret
      exact ⟨by rw [HF.out]; rfl, rfl⟩
  · have HF : Hid (rightP c = false) := Lib.hid (by rw [HR.out, decide_eq_false h1]; rfl)
    go_enter Tryz.func116, Tryz.ntmps116
    go_wp2
    go_ret
    exact ⟨by rw [HF.out]; rfl, rfl⟩

theorem zeroCells_one (z : Value) (hz : z.cells = #[z]) (n : Nat) : Builtin.zeroCells z.cells n = (List.replicate n z).toArray := by
  rw [hz]
  apply Array.ext'
  apply List.ext_getElem?
  intro i
  by_cases h : i < n
  · simp [Builtin.zeroCells, h, Nat.mod_one]
  · simp [Builtin.zeroCells, h]
theorem run_append_room_zeros {P : Program} (w : World) (t tn ty e : TypeId) (i : TypeInfo) (ht : P.underlying t = some (.slice e)) (htn : P.underlying tn = some (.int .i64)) (hi : P.info? e = some i) (hz : i.zero = some (.int .u8 0)) (hs : i.size = 1) (hb : i.bytes = 1)
    (g sLen sCap k : Nat) (cur : Array Value) (hg : w.heap[g]? = some (.cells cur e (0, 0))) (hk : 0 < k) (hk2 : k ≤ 281474976710656) (hroom : sLen + k ≤ sCap) (hfit : sLen + k ≤ cur.size) :
    (Builtin.append_ #[t, tn] ty #[.slice (some ⟨g, 0, none⟩) sLen sCap, .int .i64 (k : Int)]).run P w =
      .ok (.slice (some ⟨g, 0, none⟩) (sLen + k) sCap) (w.setRow g (cur.toList.take sLen ++ List.replicate k (Value.int .u8 0) ++ cur.toList.drop (sLen + k)).toArray) := by
  have hst := run_storeCells_at P g sLen e (List.replicate k (Value.int .u8 0)) 0 cur w hg (by simpa using hfit) (fun u hu => by rw [List.eq_of_mem_replicate hu]; rfl)
  simp only [Nat.add_zero, List.length_replicate] at hst
  have hw : IntKind.i64.wrap (k : Int) = k := by rw [IntKind.wrap_i64]; omega
  have h48i : ¬ (281474976710656 < (k : Int)) := by omega
  have hneg : ¬ ((k : Int) < 0) := by omega
  have hk0 : k ≠ 0 := by omega
  have hzc := zeroCells_one (.int .u8 0) rfl k
  have hza : (Builtin.zeroCells (Value.int IntKind.u8 0).cells k).toList = List.replicate k (Value.int .u8 0) := by rw [hzc]
  simp [Builtin.append_, run_underlying ht, run_underlying htn, sizeOf, typeInfo, zeroValue, hi, hz, hs, hb, asInt, asIntOf, hw, hneg, h48i, hroom, hk0, Addr.add_lit, hza, hst]

/-- 'append(s, make([]byte, k)...)', s of the call's own. -/
theorem wpList_append_zeros {P : Program} {w : World} {ops : Array Oper} {rest : List Oper} {o : Oper} {a : Act} {Q : Exit → Act → World → Prop} (hgd : o.guard = none) (s x : Operand) (t tn e : TypeId)
    (ho : o.op = .call { callee := .builtin .append, args := #[s, x], argTypes := #[t, tn] }) (ht : P.underlying t = some (.slice e)) (htn : P.underlying tn = some (.int .i64))
    (hinfo : (P.info? e).map (fun i => (i.zero, i.size, i.bytes)) = some (some (.int .u8 0), 1, 1))
    (B : Nat) (v : Value) (zs : List Int) (hs : a.eval s = v) (hob : Ob w B e v zs) (k : Nat) (hx : a.eval x = .int .i64 (k : Int)) (hk : 0 < k)
    (hbytes : zs.length + k ≤ 140737488355328) (hB : B ≤ w.heap.size)
    (h : ∀ v' w', Ob w' B e v' (zs ++ List.replicate k 0) → w.grownBy w' v.ownBlock → wpList P ops Q rest (a.put o.dst v') w') : wpList P ops Q (o :: rest) a w := by
  obtain ⟨i, hi, hzz⟩ := Option.map_eq_some_iff.1 hinfo
  simp only [Prod.mk.injEq] at hzz
  obtain ⟨hz, hsz, hb⟩ := hzz
  obtain ⟨hy, hxl, hcase⟩ := hob
  simp only [List.length_map, Nat.mul_one] at hxl
  have hlen : (zs.map (Value.int .u8) ++ List.replicate k (Value.int .u8 0)).length = (zs ++ List.replicate k (0 : Int)).length * 1 := by simp
  have hmap : (zs ++ List.replicate k (0 : Int)).map (Value.int .u8) = zs.map (Value.int .u8) ++ List.replicate k (Value.int .u8 0) := by simp
  have hl2 : (zs ++ List.replicate k (0 : Int)).length = zs.length + k := by simp
  have key : ∃ v' w', (Builtin.append_ #[t, tn] o.type #[v, .int .i64 (k : Int)]).run P w = .ok v' w' ∧ Ob w' B e v' (zs ++ List.replicate k 0) ∧ w.grownBy w' v.ownBlock := by
    have grown : ∀ (old : Nat), old < zs.length + k → ∀ (row : Option Nat) (sb : Option Addr), (Builtin.firstCells i.size zs.length (.slice sb zs.length old)).run P w.drew = .ok (zs.map (Value.int .u8)).toArray w.drew →
        ∃ v' w', (Builtin.append_ #[t, tn] o.type #[.slice sb zs.length old, .int .i64 (k : Int)]).run P w = .ok v' w' ∧ Ob w' B e v' (zs ++ List.replicate k 0) ∧ w.grownBy w' row := by
      intro old hold row sb hf
      have hr := run_append_grow_zeros (P := P) w t tn o.type e i (.int .u8 0) .i64 .i64 ht htn hi hz sb zs.length old _ hf k hk (by omega) hold (by omega) (by rw [hb]; omega) (by rw [hb]; exact growslice_fits hold (by omega))
      have hge := grownCap_ge w (zs.length + k) old e
      have hcm : grownCap w (zs.length + k) old e ≤ maxLen := grownCap_le_maxLen w (zs.length + k) old e (by unfold maxLen; omega)
      refine ⟨_, _, hr, ⟨bytes_append hy (bytes_replicate k), ?_⟩, ⟨rfl, rfl, rfl, by simp, fun k2 hk2 _ => heap_alloc_old w.drew _ hk2⟩⟩
      rw [hl2, hmap]
      refine ⟨by simp, .inr ⟨w.heap.size, _, _, rfl, hB, heap_alloc_new w.drew _, hge, hcm, ?_, ?_⟩⟩
      · have hz1 : (Value.int IntKind.u8 0).cells.size = 1 := rfl
        simp only [Array.size_append, List.size_toArray, size_zeroCells, hz1, List.length_map]
        omega
      · rw [zeroCells_one _ rfl k]
        simp only [Array.toList_append, List.append_assoc]
        rw [← List.append_assoc]
        rw [List.take_append_of_le_length (by simp), List.take_of_length_le (by simp)]
    rcases hcase with ⟨rfl, h0⟩ | ⟨g, cap, cur, rfl, hbg, hg, hnc, hcm, hcs, htake⟩
    · obtain rfl : zs = [] := List.length_eq_zero_iff.1 h0
      exact grown 0 (by simp; omega) _ none (by simp [Builtin.firstCells])
    · by_cases hroom : zs.length + k ≤ cap
      · have hcs' : cur.size = cap := by simpa using hcs
        have hr := run_append_room_zeros (P := P) w t tn o.type e i ht htn hi hz hsz hb g zs.length cap k cur hg hk (by omega) hroom (by omega)
        refine ⟨_, _, hr, ⟨bytes_append hy (bytes_replicate k), ?_⟩, ⟨rfl, rfl, rfl, by simp, fun k' _ hk' => setRow_other w g k' _ (fun e => hk' (by simp [Value.ownBlock, e]))⟩⟩
        rw [hl2, hmap]
        refine ⟨by simp, .inr ⟨g, cap, _, rfl, hbg, setRow_heap w g cur _ e _ hg, hroom, hcm, ?_, ?_⟩⟩
        · simp only [List.size_toArray, List.length_append, List.length_take, List.length_drop, Array.length_toList, List.length_replicate]
          omega
        · have ht' : cur.toList.take zs.length = zs.map (Value.int .u8) := by simpa using htake
          rw [ht']
          rw [List.take_append_of_le_length (by simp), List.take_of_length_le (by simp)]
      · refine grown cap (by omega) _ (some ⟨g, 0, none⟩) ?_
        have hown : w.ownsRow B e 1 (.slice (some ⟨g, 0, none⟩) zs.length cap) zs.length (zs.map (Value.int .u8)) := ⟨by simp, Or.inr ⟨g, cap, cur, rfl, hbg, hg, hnc, hcm, hcs, htake⟩⟩
        have holds : ∀ j u, (zs.map (Value.int .u8))[j]? = some u → w.cell? ((⟨g, 0, none⟩ : Addr).add j) = some u := hown.cells (g := g) rfl
        exact run_firstCells_some (P := P) w.drew i.size zs.length ⟨g, 0, none⟩ zs.length cap _ (by rw [hsz]; simp) (by simpa using holds)
  obtain ⟨v', w', hr, h2, h3⟩ := key
  exact wpList_append_run w hgd s x t tn ho v _ hs hx v' w' hr (h v' w' h2 h3)
end Go.Proofs.YtncbgddgkpaoeaaGreat
