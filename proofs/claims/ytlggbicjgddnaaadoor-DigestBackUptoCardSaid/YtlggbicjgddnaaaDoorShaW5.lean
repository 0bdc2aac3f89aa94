/- What Write does to a hash in memory. -/
import Derived.Test.YtlggbicjgddnaaaDoorShaW4
import Derived.Laws.CopyOwn
import Derived.Test.YtlggbicjgddnaaaDoorReg
import Derived.Deep.DeepCutAuto
namespace Go.Proofs.YtlggbicjgddnaaaDoor
set_option linter.unusedVariables false
open Go.RowKit Go.Lib

theorem hcs_length (s : St) (blk : List Int) (n : Nat) : (hcs s blk n).length = 9 + blk.length := by simp [hcs, St.list_length]; omega
theorem Hb.lt {w : World} {b : Nat} {s : St} {blk : List Int} {n : Nat} (h : Hb w b s blk n) : b < w.heap.size := (Array.getElem?_eq_some_iff.1 h.2.2).1
theorem Hb.keep {w w' : World} {b : Nat} {s : St} {blk : List Int} {n : Nat} (h : Hb w b s blk n) (e : w'.heap[b]? = w.heap[b]?) : Hb w' b s blk n := ⟨h.1, h.2.1, e.trans h.2.2⟩
theorem Hb.later {w w' : World} {b : Nat} {s : St} {blk : List Int} {n : Nat} (h : Hb w b s blk n) (hb : Below w.heap.size w w') : Hb w' b s blk n := h.keep (hb.block b h.lt)
theorem Hb.frozen {w : World} {b : Nat} {s : St} {blk : List Int} {n : Nat} (h : Hb w b s blk n) (j : Nat) : w.frozen? ⟨b, j, none⟩ = false := frozen_of_row w b j _ _ h.2.2
theorem Hb.cell {w : World} {b : Nat} {s : St} {blk : List Int} {n : Nat} (h : Hb w b s blk n) (j : Nat) : w.cell? ⟨b, j, none⟩ = (hcs s blk n)[j]? := by
  rw [cell_of_row w b j _ _ _ h.2.2]; simp
theorem Hb.len {w : World} {b : Nat} {s : St} {blk : List Int} {n : Nat} (h : Hb w b s blk n) : w.cell? ⟨b, 72, none⟩ = some (.int .i64 (n : Int)) := by
  rw [h.cell]
  unfold hcs
  rw [List.getElem?_append_right (by simp [St.list_length]), List.getElem?_append_right (by simp [St.list_length, h.1])]
  simp [St.list_length, h.1]
theorem Hb.byte {w : World} {b : Nat} {s : St} {blk : List Int} {n : Nat} (h : Hb w b s blk n) (j : Nat) (hj : j < 64) : w.cell? ⟨b, 8 + j, none⟩ = some (.int .u8 (blk.getD j 0)) := by
  rw [h.cell]
  unfold hcs
  rw [List.getElem?_append_right (by simp [St.list_length]), List.getElem?_append_left (by simp [St.list_length, h.1]; omega)]
  have : j < blk.length := by rw [h.1]; exact hj
  simp [St.list_length, List.getD_eq_getElem?_getD, this]
theorem Hb.bs {w : World} {b : Nat} {s : St} {blk : List Int} {n : Nat} (h : Hb w b s blk n) : Bs w (some ⟨b, 8, none⟩) 64 blk := ⟨h.1, h.2.1, Or.inr ⟨b, 8, rfl, fun j hj => h.byte j hj⟩⟩
theorem Hb.setLen {w : World} {b : Nat} {s : St} {blk : List Int} {n : Nat} (h : Hb w b s blk n) (m : Nat) : Hb (w.setCell ⟨b, 72, none⟩ (.int .i64 (m : Int))) b s blk m := by
  refine ⟨h.1, h.2.1, ?_⟩
  rw [heap_setCell_same w b 72 _ _ _ h.2.2]
  have e : (hcs s blk n).set 72 (.int .i64 (m : Int)) = hcs s blk m := by
    unfold hcs
    rw [List.set_append_right _ _ (by simp [St.list_length]), List.set_append_right _ _ (by simp [St.list_length, h.1])]
    simp [St.list_length, h.1]
  rw [← e]; simp
theorem Hb.range {w : World} {b : Nat} {s : St} {blk : List Int} {n : Nat} (h : Hb w b s blk n) : w.rangeAt b 0 (s.list.map uv) := by
  intro j v hv
  rw [Nat.zero_add, h.cell]
  have hj : j < (s.list.map uv).length := (List.getElem?_eq_some_iff.1 hv).1
  unfold hcs
  rw [List.getElem?_append_left hj]; exact hv
theorem Hb.there {w : World} {b : Nat} {s : St} {blk : List Int} {n : Nat} (h : Hb w b s blk n) : w.there b 0 8 := by
  intro j hj
  refine ⟨?_, h.frozen _⟩
  rw [Nat.zero_add, h.cell, List.getElem?_eq_getElem (by rw [hcs_length, h.1]; omega)]; rfl
theorem Hb.setState {w : World} {b : Nat} {s : St} {blk : List Int} {n : Nat} (h : Hb w b s blk n) (t : St) : Hb (w.setCells b 0 (t.list.map uv)) b t blk n := by
  refine ⟨h.1, h.2.1, ?_⟩
  have h1 := h.2.2
  have h2 := heap_setCell_same _ b 7 _ _ (uv t.h) (heap_setCell_same _ b 6 _ _ (uv t.g) (heap_setCell_same _ b 5 _ _ (uv t.f) (heap_setCell_same _ b 4 _ _ (uv t.e) (heap_setCell_same _ b 3 _ _ (uv t.d) (heap_setCell_same _ b 2 _ _ (uv t.c) (heap_setCell_same _ b 1 _ _ (uv t.b) (heap_setCell_same w b 0 _ _ (uv t.a) h1)))))))
  refine Eq.trans (b := _) h2 ?_
  simp [hcs, St.list]
theorem grown_setCells {w0 w : World} {b : Nat} (hb : w0.grownBy w (some b)) : ∀ (vs : List Value) (o : Nat), w0.grownBy (w.setCells b o vs) (some b)
  | [], _ => hb
  | v :: r, o => grown_setCells (w := w.setCell ⟨b, o, none⟩ v) ⟨hb.os, hb.tape, hb.output, by have := hb.size; simpa [World.setCell] using this, fun k hk hne => (heap_setCell_other w ⟨b, o, none⟩ k v (fun e => hne (by rw [e]))).trans (hb.block k hk hne)⟩ r (o + 1)
theorem grown_setCell {w0 w : World} {b o : Nat} (hb : w0.grownBy w (some b)) (v : Value) : w0.grownBy (w.setCell ⟨b, o, none⟩ v) (some b) := grown_setCells hb [v] o
theorem grown_setRow {w0 w : World} {b : Nat} (hb : w0.grownBy w (some b)) (cs : Array Value) : w0.grownBy (w.setRow b cs) (some b) :=
  ⟨hb.os, hb.tape, hb.output, by have := hb.size; simpa using this, fun k hk hne => (setRow_other w b k cs (fun e => hne (by rw [e]))).trans (hb.block k hk hne)⟩
theorem grown_refl (w : World) (r : Option Nat) : w.grownBy w r := ⟨rfl, rfl, rfl, Nat.le_refl _, fun _ _ _ => rfl⟩
theorem grown_below {w0 w w' : World} {r : Option Nat} (h : w0.grownBy w r) (hb : Below w.heap.size w w') : w0.grownBy w' r :=
  ⟨hb.os.trans h.os, hb.tape.trans h.tape, hb.output.trans h.output, Nat.le_trans h.size hb.size, fun k hk hne => (hb.block k (Nat.lt_of_lt_of_le hk h.size)).trans (h.block k hk hne)⟩
theorem grown_trans {a b c : World} {r : Option Nat} (h : a.grownBy b r) (k : b.grownBy c r) : a.grownBy c r :=
  ⟨k.os.trans h.os, k.tape.trans h.tape, k.output.trans h.output, Nat.le_trans h.size k.size, fun i hi hne => (k.block i (Nat.lt_of_lt_of_le hi h.size) hne).trans (h.block i hi hne)⟩
theorem grown_drew {a b : World} {r : Option Nat} (h : a.grownBy b r) : a.grownBy b.drew r := ⟨h.os, h.tape, h.output, h.size, h.block⟩

/-- of these bytes none lies in block b -/
def Away (p : Option Addr) (n b : Nat) : Prop := n = 0 ∨ ∀ a, p = some a → a.block ≠ b
/-- bytes elsewhere stay -/
theorem Bs.grown {w w' : World} {b : Nat} {p : Option Addr} {n : Nat} {zs : List Int} (h : Bs w p n zs) (hg : w.grownBy w' (some b)) (hne : Away p n b) : Bs w' p n zs := by
  obtain ⟨h1, h2, h3⟩ := h
  refine ⟨h1, h2, ?_⟩
  rcases hne with h0 | hne
  · exact Or.inl h0
  rcases h3 with h3 | ⟨c, off, rfl, hc⟩
  · exact Or.inl h3
  · refine Or.inr ⟨c, off, rfl, fun j hj => ?_⟩
    have hl := World.block_lt_of_cell? w _ (hc j hj)
    have hn := hne _ rfl
    rw [World.cell?_of_block (hg.block c hl (by simpa using hn))]
    exact hc j hj
theorem Bs.away {w : World} {b : Nat} {p : Option Addr} {n : Nat} {zs : List Int} (h : Bs w p n zs) (hb : w.heap.size ≤ b) : Away p n b := by
  obtain ⟨_, _, h3⟩ := h
  by_cases h0 : n = 0
  · exact Or.inl h0
  rcases h3 with h3 | ⟨c, off, rfl, hc⟩
  · exact Or.inl h3
  · refine Or.inr fun a ha => ?_
    have hl := World.block_lt_of_cell? w _ (hc 0 (by omega))
    simp only [Option.some.injEq] at ha
    subst ha
    show c ≠ b
    have : c < w.heap.size := hl
    omega
theorem Kw.grown {w w' : World} {b : Nat} (h : Kw w) (hg : w.grownBy w' (some b)) (hb : b ≠ 1) : Kw w' := fun j hj => by
  rw [World.cell?_of_block (hg.block 1 h.pos (by simpa using fun e => hb (Eq.symm e)))]
  exact h j hj

/-- the block behind a copy -/
def blkPut (blk : List Int) (off : Nat) (ys : List Int) : List Int := blk.take off ++ (ys ++ blk.drop (off + ys.length))
theorem blkPut_length {blk : List Int} {off : Nat} {ys : List Int} (h : off + ys.length ≤ blk.length) : (blkPut blk off ys).length = blk.length := by simp [blkPut]; omega
theorem bytes_take {zs : List Int} (h : ∀ j, 0 ≤ zs.getD j 0 ∧ zs.getD j 0 < 256) (n : Nat) : ∀ j, 0 ≤ (zs.take n).getD j 0 ∧ (zs.take n).getD j 0 < 256 := by
  intro j
  have := h j
  simp only [List.getD_eq_getElem?_getD, List.getElem?_take] at *
  split
  · exact this
  · simp
theorem bytes_drop {zs : List Int} (h : ∀ j, 0 ≤ zs.getD j 0 ∧ zs.getD j 0 < 256) (n : Nat) : ∀ j, 0 ≤ (zs.drop n).getD j 0 ∧ (zs.drop n).getD j 0 < 256 := by
  intro j
  have := h (n + j)
  simpa only [List.getD_eq_getElem?_getD, List.getElem?_drop] using this
theorem Hb.copy {w : World} {b : Nat} {s : St} {blk : List Int} {n : Nat} (h : Hb w b s blk n) (off : Nat) (ys : List Int) (hl : off + ys.length ≤ 64) (hy : ∀ j, 0 ≤ ys.getD j 0 ∧ ys.getD j 0 < 256) :
    Hb (w.setRow b ((hcs s blk n).toArray.toList.take (8 + off) ++ (ys.map (Value.int .u8) ++ (hcs s blk n).toArray.toList.drop (8 + off + (ys.map (Value.int .u8)).length))).toArray) b s (blkPut blk off ys) n := by
  refine ⟨by rw [blkPut_length (by rw [h.1]; exact hl)]; exact h.1, bytes_append (bytes_take h.2.1 _) (bytes_append hy (bytes_drop h.2.1 _)), ?_⟩
  rw [setRow_heap w b _ _ _ _ h.2.2]
  congr 2
  have e1 : (s.list.map uv).length = 8 := by simp [St.list_length]
  simp only [hcs, blkPut, List.map_append, List.map_take, List.map_drop, List.length_map]
  rw [List.take_append, List.drop_append, e1, List.take_of_length_le (by omega), List.drop_of_length_le (by omega), List.nil_append,
    List.take_append, List.drop_append, List.length_map, h.1, show 8 + off - 8 = off by omega, show 8 + off + ys.length - 8 = off + ys.length by omega,
    show off - 64 = 0 by omega, show off + ys.length - 64 = 0 by omega]
  simp

theorem Hb.st8 {w : World} {b : Nat} {s : St} {blk : List Int} {n : Nat} (h : Hb w b s blk n) :
    w.cell? ⟨b, 0, none⟩ = some (.int .u32 (s.a : Int)) ∧ w.cell? ⟨b, 1, none⟩ = some (.int .u32 (s.b : Int)) ∧ w.cell? ⟨b, 2, none⟩ = some (.int .u32 (s.c : Int)) ∧ w.cell? ⟨b, 3, none⟩ = some (.int .u32 (s.d : Int)) ∧
    w.cell? ⟨b, 4, none⟩ = some (.int .u32 (s.e : Int)) ∧ w.cell? ⟨b, 5, none⟩ = some (.int .u32 (s.f : Int)) ∧ w.cell? ⟨b, 6, none⟩ = some (.int .u32 (s.g : Int)) ∧ w.cell? ⟨b, 7, none⟩ = some (.int .u32 (s.h : Int)) :=
  ⟨h.range 0 _ rfl, h.range 1 _ rfl, h.range 2 _ rfl, h.range 3 _ rfl, h.range 4 _ rfl, h.range 5 _ rfl, h.range 6 _ rfl, h.range 7 _ rfl⟩
theorem Hb.fr8 {w : World} {b : Nat} {s : St} {blk : List Int} {n : Nat} (h : Hb w b s blk n) :
    w.frozen? ⟨b, 0, none⟩ = false ∧ w.frozen? ⟨b, 1, none⟩ = false ∧ w.frozen? ⟨b, 2, none⟩ = false ∧ w.frozen? ⟨b, 3, none⟩ = false ∧
    w.frozen? ⟨b, 4, none⟩ = false ∧ w.frozen? ⟨b, 5, none⟩ = false ∧ w.frozen? ⟨b, 6, none⟩ = false ∧ w.frozen? ⟨b, 7, none⟩ = false :=
  ⟨h.frozen 0, h.frozen 1, h.frozen 2, h.frozen 3, h.frozen 4, h.frozen 5, h.frozen 6, h.frozen 7⟩
/-- 'x[l:]' stays in x's block -/
theorem slice_from_block {P : Program} {W : World} {p p' : Option Addr} {n c : Nat} (t e : TypeId) (ht : P.underlying t = some (.slice e)) (hz : ∀ w, (Go.sizeOf e).run P w = .ok 1 w) (len cap l : Nat) (hlc : len ≤ cap) (hl : l ≤ len)
    (h : (Instr.slice t (.slice p len cap) (some (.int .i64 (l : Int))) none none).run P W = .ok (.slice p' n c) W) : ∀ a', p' = some a' → ∃ a, p = some a ∧ a'.block = a.block := by
  have ht' : P.underlying t = some (.slice (P.elem t)) := by simp [Program.elem, ht]
  have he : P.elem t = e := by simp [Program.elem, ht]
  rw [run_slice_l W t _ _ _ ht' .i64 _ (by omega) (by omega), he, hz] at h
  simp only [Result.andThen, sliced, Result.ok.injEq, Value.slice.injEq, and_true] at h
  intro a' ha
  obtain ⟨h1, _⟩ := h
  rw [ha] at h1
  cases p with
  | none => simp at h1
  | some a =>
    refine ⟨a, rfl, ?_⟩
    simp only [Option.map_some] at h1
    split at h1
    · simp at h1; rw [h1]
    · simp at h1; rw [← h1]; unfold Addr.add; split <;> rfl

/-- A whole row, loaded in the head of a region that draws and only reads ahead of its tail. -/
theorem wpStill_load_mid {P : Program} {ops : Array Oper} {w : World} {Q : Act → Prop} {a : Act} {op : Oper} {rest : List Oper} (hg : op.guard = none) (ty : TypeId) (x : Operand) (ho : op.op = .load ty x)
    (b o : Nat) (hx : a.eval x = .pointer (some ⟨b, o, none⟩)) (cs : List Value) (d : TypeDesc) (hc : w.rangeAt b o cs)
    (hu : P.underlying ty = some d) (hd : d.isRow = true) (hi : (P.info? ty).map (·.size) = some cs.length)
    (h : wpStill P ops w Q rest (a.put op.dst (.agg cs.toArray))) : wpStill P ops w Q (op :: rest) a :=
  wpStill_step fun K hK => by
    rw [if_pos (by simp [Region.wanted, hg])]
    unfold Oper.still execOp
    simp only [ho, hx, Instr.loadAt, Instr.sureAddr, Sem.run_bind, Sem.run_pure, Result.andThen_ok, run_loadVar_mid w b o ty cs d hc hu hd hi]
    exact ⟨rfl, hK _ h⟩

/-- 'copy' into the block of a hash. -/
theorem wpList_copy_hb {w : World} {ops : Array Oper} {rest : List Oper} {o : Oper} {a : Act} {Q : Exit → Act → World → Prop} (hgd : o.guard = none) (d s : Operand)
    (ho : o.op = .call { callee := .builtin .copy, args := #[d, s], argTypes := #[22, 22] })
    (b off dLen dCap : Nat) (st : St) (blk : List Int) (n : Nat) (sp : Option Addr) (sLen sCap : Nat) (ys : List Int) (m : Nat)
    (hd : a.eval d = .slice (some ⟨b, 8 + off, none⟩) dLen dCap) (hs : a.eval s = .slice sp sLen sCap) (hH : Hb w b st blk n) (hbs : Bs w sp sLen ys) (hm : m = Nat.min sLen dLen) (hfit : off + dLen ≤ 64)
    (h : ∀ w', Hb w' b st (blkPut blk off (ys.take m)) n → w.grownBy w' (some b) → wpList Tryd.prog ops Q rest (a.put o.dst (goInt m)) w') : wpList Tryd.prog ops Q (o :: rest) a w := by
  have hmd : m ≤ dLen := by rw [hm]; exact Nat.min_le_right _ _
  have hms : m ≤ sLen := by rw [hm]; exact Nat.min_le_left _ _
  by_cases h0 : m = 0
  · refine wpList_copy_nothing hgd d s 22 22 ho 5 Tryd.underlying22 size8 _ _ _ _ _ _ hd hs (by rw [← hm]; exact h0) ?_
    have e : blkPut blk off (ys.take m) = blk := by rw [h0]; simp [blkPut]
    have := h w (by rw [e]; exact hH) (grown_refl _ _)
    rw [h0] at this
    exact this
  · obtain ⟨h1, h2, h3⟩ := hbs
    rcases h3 with h3 | ⟨c, co, rfl, hc⟩
    · omega
    · have hl : ((ys.take m).map (Value.int .u8)).length = m := by simp; omega
      have hl2 : (ys.take m).length = m := by simp; omega
      refine wpList_copy_own hgd d s 22 22 ho 5 Tryd.underlying22 size8 b (8 + off) dLen dCap ⟨c, co, none⟩ sLen sCap hd hs _ _ hH.2.2 ((ys.take m).map (Value.int .u8)) (by rw [hl]; exact hm) ?_ ?_ ?_ ?_
      · intro j u hj
        have hjm : j < m := by
          rcases Nat.lt_or_ge j m with h | h
          · exact h
          · rw [List.getElem?_eq_none (by omega)] at hj; cases hj
        rw [WideShapes.add_plain, hc j (by omega), List.getD_eq_getElem?_getD]
        rw [List.getElem?_map, List.getElem?_take, if_pos hjm] at hj
        rw [List.getElem?_eq_getElem (by omega)] at hj ⊢
        simpa using hj
      · rw [hl]; simp only [List.size_toArray]; rw [hcs_length, hH.1]; omega
      · intro u hu
        obtain ⟨z, _, rfl⟩ := List.mem_map.1 hu
        rfl
      · have hh := hH.copy off (ys.take m) (by rw [hl2]; omega) (bytes_take h2 m)
        rw [hl]
        rw [hl] at hh
        exact h _ hh (grown_setRow (grown_refl _ _) _)
end Go.Proofs.YtlggbicjgddnaaaDoor
