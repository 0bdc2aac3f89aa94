/- Layer 15, the program: slices.Grow and slices.Concat at records -/
import Derived.Test.YtcjflabipkppfaaBt35
import Derived.Test.YtcjflabipkppfaaBt36
set_option linter.unusedSimpArgs false
set_option linter.unusedVariables false
namespace Go.Proofs.Ytcjflabipkppfaa
set_option linter.unusedVariables false
open Go.RowKit Go.Lib

def rzero : Value := .agg (mixC rq0.a rq0.dg rq0.z)
theorem infoRc3 : (Try.prog.info? encRc.t).map (fun i => (i.zero, i.size, i.bytes)) = some (some rzero, encRc.k, 104) := by kernel_rfl
theorem rzero_size : rzero.cells.size = encRc.k := by kernel_rfl
theorem infoRs : (Try.prog.info? 22).map (fun i => (i.zero, i.size)) = some (some (.slice none 0 0), 1) := by kernel_rfl
/-- '[]S{x, y}': a row of two slices laid anew. -/
theorem wpList_build_two {ops : Array Oper} {rest : List Oper} {o : Oper} {a : Act} {w : World} {Q : Exit → Act → World → Prop} (hg : o.guard = none) (t : TypeId) (x y : Nat) (ho : o.op = .buildSlice t 2 #[(0, .tmp x), (1, .tmp y)])
    (hu : Try.prog.underlying t = some (.slice 22)) (p : Option Addr) (n c : Nat) (q : Option Addr) (m d : Nat) (hx : a.eval (.tmp x) = .slice p n c) (hy : a.eval (.tmp y) = .slice q m d)
    (h : wpList Try.prog ops Q rest (a.put o.dst (.slice (some ⟨w.heap.size, 0, none⟩) 2 2)) (w.alloc (.cells #[.slice p n c, .slice q m d] 22))) : wpList Try.prog ops Q (o :: rest) a w := by
  obtain ⟨i, hi, hzz⟩ := Option.map_eq_some_iff.1 infoRs
  simp only [Prod.mk.injEq] at hzz
  obtain ⟨hz, hsz⟩ := hzz
  refine wpList_buildSlice hg t 22 2 _ ho #[.slice p n c, .slice q m d] i _ hu hi hz (by rw [hsz]; decide) (by rw [hsz]; decide) ?_ h
  rw [hsz]
  have e : (#[(0, Operand.tmp x), (1, Operand.tmp y)].map fun (p : Nat × Operand) => (p.1, a.eval p.2)).toList = [((0 : Nat), Value.slice p n c), (1, Value.slice q m d)] := by
    simp [hx, hy]
  rw [e]
  have hf := Great.fill_whole (s := 1) (by decide) [.slice p n c, .slice q m d] ((Array.range (2 * 1)).map ((Value.slice none 0 0).cells[· % (Value.slice none 0 0).cells.size]!)) (by
    intro v hv
    simp only [List.mem_cons, List.not_mem_nil, or_false] at hv
    rcases hv with rfl | rfl <;> rfl) (by simp)
  refine (Eq.trans ?_ hf).trans ?_
  · rfl
  · simp [Value.cells]
set_option maxRecDepth 100000 in
set_option maxHeartbeats 2000000 in
theorem sgrow_any (k : Nat) (w : World) (hk : 0 < k) (hk2 : k ≤ 2097153) : Calls Try.prog 30 #[.slice none 0 0, .int .i64 k] w fun e w' => ∃ v, e = .returned v ∧ Gw encRc w' w.heap.size v [] ∧ Below w.heap.size w w' := by
  have h1 : ¬ ((k : Int) < 0) := by omega
  have h4 : (k : Int) > 0 := by omega
  have h5 : wrap64 (k : Int) = (k : Int) := by unfold wrap64; omega
  go_enter Try.func30, Try.ntmps30
  go_wp2_with (refine wpList_append_zeros_nil encRc rfl _ _ 22 3 rfl Try.underlying22 Try.underlying3 rzero 104 infoRc3 rzero_size (by decide) rfl k rfl hk hk2 ?_; intro c w1 hc1 hc2 ho1 hb1)
  go_ret
  exact ⟨_, rfl, ho1, hb1⟩
set_option maxRecDepth 100000 in
set_option maxHeartbeats 4000000 in
theorem sconcat_any (b : Nat) (p : Option Addr) (n c : Nat) (L : List Rx) (q : Option Addr) (m d : Nat) (M : List Rx) (w : World) (hc0 : w.cell? ⟨b, 0, none⟩ = some (.slice p n c)) (hc1 : w.cell? ⟨b, 1, none⟩ = some (.slice q m d))
    (hL : Gs encRc w p n L) (hp : p = none → c = 0) (hM : Gs encRc w q m M) (hq : q = none → d = 0) (h0 : 0 < n + m) (hn : n + m ≤ 2097152) :
    Calls Try.prog 18 #[.slice (some ⟨b, 0, none⟩) 2 2] w fun e w' => ∃ v, e = .returned v ∧ Gw encRc w' w.heap.size v (L ++ M) ∧ Below w.heap.size w w' := by
  have HB0 := Lib.hid fun W (hW : Below w.heap.size w W) => (show W.cell? ⟨b, 0, none⟩ = some (.slice p n c) ∧ W.cell? ⟨b, 1, none⟩ = some (.slice q m d) from ⟨by rw [hW.cell (World.block_lt_of_cell? w _ hc0)]; exact hc0, by rw [hW.cell (World.block_lt_of_cell? w _ hc1)]; exact hc1⟩)
  have HL := Lib.hid hL
  have HM := Lib.hid hM
  have HP := Lib.hid hp
  have HQ := Lib.hid hq
  have HNL := Lib.hid hL.len
  have HNM := Lib.hid hM.len
  have HG := Lib.hid fun W => sgrow_any (n + m) W h0 (by omega)
  obtain ⟨s, hs⟩ : ∃ s, n + m = s := ⟨_, rfl⟩
  rw [hs] at HG
  have hs0 : wrap64 (n : Int) = (n : Int) := by unfold wrap64; omega
  have hs1 : wrap64 ((n : Int) + (m : Int)) = (s : Int) := by unfold wrap64; omega
  have hs2 : IntKind.i64.wrap ((n : Int) + (m : Int)) = (s : Int) := by simp [IntKind.wrap, IntKind.bits, IntKind.signed]; omega
  have hn0 : ¬ ((n : Int) < 0) := by omega
  have hn1 : ¬ ((s : Int) < 0) := by omega
  have HS := Lib.hid hs
  clear hL hM hp hq hs h0
  go_enter Try.func18, Try.ntmps18
  go_wp2
  go_loopw [3, 11] (fun z i wr => ((i = .int .i64 0 ∧ z = .int .i64 0) ∨ (i = .int .i64 1 ∧ z = .int .i64 (n : Int)) ∨ (i = .int .i64 2 ∧ z = .int .i64 (s : Int))) ∧ w = wr) (fun _ i _ => 2 - (intOf i).toNat)
  case atStart => exact ⟨Or.inl ⟨rfl, rfl⟩, rfl⟩
  case round =>
    obtain ⟨hrel, rfl⟩ := hrel
    rcases hrel with ⟨rfl, rfl⟩ | ⟨rfl, rfl⟩ | ⟨rfl, rfl⟩
    · go_wp2
      exact ⟨⟨Or.inr (Or.inl ⟨rfl, rfl⟩), (by first | rfl | trivial)⟩, by simp [intOf]⟩
    · go_wp2
      exact ⟨⟨Or.inr (Or.inr ⟨rfl, rfl⟩), (by first | rfl | trivial)⟩, by simp [intOf]⟩
    · go_wp2_with (go_at_call 30; refine (HG.out _).mono ?_; rintro e w1 ⟨v1, rfl, ho1, hb1⟩; have HO1 := Lib.hid ho1; have HB1 := Lib.hid hb1; clear ho1 hb1)
      go_loopw [6, 27] (fun v i wq => ((i = .int .i64 0 ∧ Hid (Gw encRc wq w.heap.size v [])) ∨ (i = .int .i64 1 ∧ Hid (Gw encRc wq w.heap.size v L)) ∨ (i = .int .i64 2 ∧ Hid (Gw encRc wq w.heap.size v (L ++ M)))) ∧ Hid (Below w.heap.size w wq)) (fun _ i _ => 2 - (intOf i).toNat)
      case atStart => exact ⟨Or.inl ⟨rfl, HO1⟩, HB1⟩
      case round =>
        obtain ⟨hrel, HB⟩ := hrel
        obtain ⟨k0, k1⟩ := HB0.out _ HB.out
        rcases hrel with ⟨rfl, HO⟩ | ⟨rfl, HO⟩ | ⟨rfl, HO⟩
        · go_wp2_with (refine wpList_append_gen encRc rfl _ _ 22 rfl Try.underlying22 rzero 104 infoRc3 rzero_size (by decide) w.heap.size _ [] rfl HO.out p n c L rfl (HL.out.later HB.out) HP.out (by have := HS.out; simp; omega) HB.out.size ?_; intro v5 w5 ho5 hg5; have HO5 := Lib.hid ho5; have HB5 := Lib.hid (below_new_gw HB.out HO.out hg5 HB.out.size); clear ho5 hg5)
          exact ⟨⟨Or.inr (Or.inl ⟨rfl, HO5⟩), HB5⟩, by simp [intOf]⟩
        · go_wp2_with (refine wpList_append_gen encRc rfl _ _ 22 rfl Try.underlying22 rzero 104 infoRc3 rzero_size (by decide) w.heap.size _ L rfl HO.out q m d M rfl (HM.out.later HB.out) HQ.out (by have := HS.out; have := HNL.out; omega) HB.out.size ?_; intro v5 w5 ho5 hg5; have HO5 := Lib.hid ho5; have HB5 := Lib.hid (below_new_gw HB.out HO.out hg5 HB.out.size); clear ho5 hg5)
          exact ⟨⟨Or.inr (Or.inr ⟨rfl, HO5⟩), HB5⟩, by simp [intOf]⟩
        · go_wp2
          go_ret
          exact ⟨_, rfl, HO.out, HB.out⟩
end Go.Proofs.Ytcjflabipkppfaa
