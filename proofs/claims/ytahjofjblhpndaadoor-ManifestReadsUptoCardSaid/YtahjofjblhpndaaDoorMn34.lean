/- Layer 17, the program: Read; Layer 17, the program: Read of what has no first line; Read -/
import Derived.Test.YtahjofjblhpndaaDoorMn10
import Derived.Test.YtahjofjblhpndaaDoorMn32
import Derived.Test.YtahjofjblhpndaaDoorMn33
import Derived.RangeFuncFrom
import Derived.RangeFuncBox
import Derived.OwnWalkIn
set_option linter.unusedSimpArgs false
set_option linter.unusedVariables false
namespace Go.Proofs.YtahjofjblhpndaaDoor
set_option linter.unusedVariables false
open Go.RowKit Go.Lib Go.Shelf
attribute [local go_sem] Oper.semAt_some

theorem wpListIn_buildSlice {F : Fence} {n : Nat} {P : Program} {ops : Array Oper} {rest : List Oper} {o : Oper} {a : Act} {w : World} {Q : Exit → Act → World → Prop} (hg : o.guard = none) (t e : TypeId) (len : Nat) (parts : Array (Nat × Operand)) (ho : o.op = .buildSlice t len parts)
    (cells : Array Value) (ie : TypeInfo) (z : Value)
    (hu : P.underlying t = some (.slice e)) (hie : P.info? e = some ie) (hz : ie.zero = some z) (hsmall : ¬ len * ie.size > 2 ^ 24) (hpos : ¬ len * ie.size = 0)
    (hf : Instr.fill (fun i => some (i * ie.size, ie.size)) ((Array.range (len * ie.size)).map (z.cells[· % z.cells.size]!)) (parts.map fun (i, x) => (i, a.eval x)).toList = some cells)
    (h : wpListIn F n P ops Q rest (a.put o.dst (.slice (some ⟨w.heap.size, 0, none⟩) len len)) (w.alloc (.cells cells e))) : wpListIn F n P ops Q (o :: rest) a w :=
  wpListIn_plain hg fun K hK => by
    refine ⟨fun f hf => by simp [Oper.about, ho] at hf, ?_⟩
    rw [Oper.semAt_eq _ _ _ (fun c => by rw [ho]; intro h; cases h)]
    unfold execOp
    simp only [ho, Sem.run_bind, run_buildSlice w t e len _ cells ie z hu hie hz hsmall hpos hf, Result.andThen_ok, Sem.run_pure]
    exact hK _ _ h
/-- '[]Ref{x}': one reference laid anew, inside a fence. -/
theorem wpListIn_build_rf {F : Fence} {n : Nat} {ops : Array Oper} {rest : List Oper} {o : Oper} {a : Act} {w : World} {Q : Exit → Act → World → Prop} (hg : o.guard = none) (t : TypeId) (x : Nat) (ho : o.op = .buildSlice t 1 #[(0, .tmp x)])
    (hu : Tryd.prog.underlying t = some (.slice 41)) (q : Fx) (hx : a.eval (.tmp x) = .agg (mixC q.1.a q.1.dg q.1.t))
    (h : wpListIn F n Tryd.prog ops Q rest (a.put o.dst (.slice (some ⟨w.heap.size, 0, none⟩) 1 1)) (w.alloc (.cells (mixC q.1.a q.1.dg q.1.t) 41))) : wpListIn F n Tryd.prog ops Q (o :: rest) a w := by
  obtain ⟨i, hi, hzz⟩ := Option.map_eq_some_iff.1 infoRf
  simp only [Prod.mk.injEq] at hzz
  obtain ⟨hz, hsz, _⟩ := hzz
  have hsz' : i.size = 34 := hsz
  refine wpListIn_buildSlice hg t 41 1 _ ho (mixC q.1.a q.1.dg q.1.t) i _ hu hi hz (by rw [hsz']; decide) (by rw [hsz']; decide) ?_ h
  rw [hsz']
  have hf := Great.fill_whole (s := 34) (by decide) [.agg (mixC q.1.a q.1.dg q.1.t)] ((Array.range (1 * 34)).map (rfzero.cells[· % rfzero.cells.size]!)) (by
    intro v hv
    rw [List.mem_singleton] at hv
    subst hv
    show (mixC q.1.a q.1.dg q.1.t).size = 34
    exact q.1.size q.2) (by simp)
  have e : (#[(0, Operand.tmp x)].map fun (p : Nat × Operand) => (p.1, a.eval p.2)).toList = [((0 : Nat), Value.agg (mixC q.1.a q.1.dg q.1.t))] := by
    simp [hx]
  rw [e]
  refine (Eq.trans ?_ hf).trans ?_
  · rfl
  · simp [Value.cells]
theorem box_keep {X Y : World} {n B : Nat} {t : TypeId} {v : Value} {row : Option Nat} (h : Boxed X B t v) (hg : X.grownBy Y row) (hr : ∀ r, row = some r → n ≤ r ∧ ∃ o : Obj, X.heap[r]? = some o ∧ o.isCells = false) : Boxed Y B t v :=
  h.kept hg fun e => by
    obtain ⟨_, o, ho, hc⟩ := hr B e.symm
    rw [show X.heap[B]? = _ from h] at ho
    cases ho
    cases hc
theorem gw_keep {α : Type} {E : Ec α} {X Y : World} {n B : Nat} {L : List α} {v : Value} {row : Option Nat} (h : Gw E X B v L) (hg : X.grownBy Y row) (hr : ∀ r, row = some r → n ≤ r ∧ ∃ o : Obj, X.heap[r]? = some o ∧ o.isCells = false) : Gw E Y B v L :=
  h.kept hg fun b hb e => by
    obtain ⟨_, o, ho, hc⟩ := hr b e.symm
    rcases h.2 with ⟨rfl, _⟩ | ⟨g, cap, cur, rfl, _, hgb, _⟩
    · cases hb
    · simp only [Value.ownBlock, Option.some.injEq] at hb
      subst hb
      rw [hgb] at ho
      cases ho
      cases hc
/-- between two lines -/
structure RdJ (w W : World) (B0 B1 B2 : Nat) (L : List Fx) (v : Value) : Prop where
  b0 : Boxed W B0 22 (.slice none 0 0)
  b1 : Boxed W B1 24 (.int .i64 0)
  b2 : Boxed W B2 22 v
  own : Gw encRf W w.heap.size v L
  le : Below w.heap.size w W
def rd0 : Rd3 := ⟨[], 0⟩
def RdI (w : World) (B0 B1 B2 : Nat) (pre : List Sx) (W : World) : Prop := ∃ L v, RdJ w W B0 B1 B2 L v ∧ foldX (plS pre) rd0 = ⟨rfL L, 0⟩
def RdX (w : World) (B0 B1 : Nat) (c : Code) (pre : List Sx) (W : World) : Prop := c = .ret ∧ ∃ e, e ≠ 0 ∧ foldX (plS pre) rd0 = rdNo e ∧ Boxed W B0 22 (.slice none 0 0) ∧ Boxed W B1 24 (.int .i64 e) ∧ Below w.heap.size w W
theorem rdI_own (w : World) (B B0 B1 B2 : Nat) (hB : w.heap.size ≤ B) : OwnFrom B (RdI w B0 B1 B2) := fun s X Y row hs hg hr => by
  obtain ⟨L, v, h, hf⟩ := hs
  exact ⟨L, v, ⟨box_keep h.b0 hg hr, box_keep h.b1 hg hr, box_keep h.b2 hg hr, gw_keep h.own hg hr, ownFrom_below (β := Unit) (Nat.le_refl _) hB () X Y row h.le hg hr⟩, hf⟩
theorem rdX_own (w : World) (B B0 B1 : Nat) (hB : w.heap.size ≤ B) (c : Code) : OwnFrom B (RdX w B0 B1 c) := fun s X Y row hs hg hr => by
  obtain ⟨hc, e, h1, h2, h3, h4, h5⟩ := hs
  exact ⟨hc, e, h1, h2, box_keep h3 hg hr, box_keep h4 hg hr, ownFrom_below (β := Unit) (Nat.le_refl _) hB () X Y row h5 hg hr⟩
theorem RdJ.later {w W W' : World} {B0 B1 B2 : Nat} {L : List Fx} {v : Value} (h : RdJ w W B0 B1 B2 L v) (hb : Below W.heap.size W W') : RdJ w W' B0 B1 B2 L v :=
  ⟨(hb.block _ h.b0.lt).trans h.b0, (hb.block _ h.b1.lt).trans h.b1, (hb.block _ h.b2.lt).trans h.b2, h.own.later hb, below_step h.le hb⟩
theorem box_other {W : World} {B B' : Nat} {t : TypeId} {v : Value} (h : Boxed W B t v) (hne : B ≠ B') (x : Value) : Boxed (W.setCell ⟨B', 0, none⟩ x) B t v := h.kept (grownBy_setCell' W B' x) (by simp [hne])
theorem RdJ.cells {w W : World} {B0 B1 B2 : Nat} {L : List Fx} {v : Value} (h : RdJ w W B0 B1 B2 L v) (h01 : B1 ≠ B0) (x : Value) :
    W.cell? ⟨B0, 0, none⟩ = some (.slice none 0 0) ∧ W.frozen? ⟨B0, 0, none⟩ = false ∧ (W.setCell ⟨B0, 0, none⟩ x).cell? ⟨B1, 0, none⟩ = some (.int .i64 0) ∧ (W.setCell ⟨B0, 0, none⟩ x).frozen? ⟨B1, 0, none⟩ = false ∧ W.cell? ⟨B2, 0, none⟩ = some v ∧ W.frozen? ⟨B2, 0, none⟩ = false :=
  ⟨h.b0.cell, h.b0.frozen, (box_other h.b1 h01 x).cell, (box_other h.b1 h01 x).frozen, h.b2.cell, h.b2.frozen⟩
theorem RdJ.two {w W : World} {B0 B1 B2 : Nat} {L : List Fx} {v : Value} (h : RdJ w W B0 B1 B2 L v) (h01 : B1 ≠ B0) (hB0 : w.heap.size ≤ B0) (hB1 : w.heap.size ≤ B1) (x y : Value) :
    KeepsOthers W ((W.setCell ⟨B0, 0, none⟩ x).setCell ⟨B1, 0, none⟩ y) ∧ Boxed ((W.setCell ⟨B0, 0, none⟩ x).setCell ⟨B1, 0, none⟩ y) B0 22 x ∧ Boxed ((W.setCell ⟨B0, 0, none⟩ x).setCell ⟨B1, 0, none⟩ y) B1 24 y ∧
      Below w.heap.size w ((W.setCell ⟨B0, 0, none⟩ x).setCell ⟨B1, 0, none⟩ y) ∧ Gw encRf ((W.setCell ⟨B0, 0, none⟩ x).setCell ⟨B1, 0, none⟩ y) w.heap.size v L := by
  have n0 : some B0 ≠ v.ownBlock := h.b0.not_row (e := encRf.t) (by decide) h.own
  have n1 : some B1 ≠ v.ownBlock := h.b1.not_row (e := encRf.t) (by decide) h.own
  refine ⟨(KeepsOthers.setCell _ _ _).trans (KeepsOthers.setCell _ _ _), box_other (h.b0.set x) (fun e => h01 e.symm) y, (box_other h.b1 h01 x).set y,
    (h.le.setCell (p := ⟨B0, 0, none⟩) hB0 _).setCell (p := ⟨B1, 0, none⟩) hB1 _, ?_⟩
  exact (h.own.kept (grownBy_setCell' W B0 x) fun b hb e => n0 (by rw [hb, e])).kept (grownBy_setCell' _ B1 y) fun b hb e => n1 (by rw [hb, e])
/-- behind an append -/
theorem RdJ.more {w W W1 : World} {B0 B1 B2 : Nat} {L : List Fx} {v v' : Value} {q : Fx} {tmp : Obj} (h : RdJ w W B0 B1 B2 L v) (h02 : B0 ≠ B2) (h12 : B1 ≠ B2) (hB2 : w.heap.size ≤ B2)
    (ho : Gw encRf W1 w.heap.size v' (L ++ [q])) (hg : (W.alloc tmp).grownBy W1 v.ownBlock) :
    W1.cell? ⟨B2, 0, none⟩ = some v ∧ W1.frozen? ⟨B2, 0, none⟩ = false ∧ KeepsOthers W (W1.setCell ⟨B2, 0, none⟩ v') ∧ RdJ w (W1.setCell ⟨B2, 0, none⟩ v') B0 B1 B2 (L ++ [q]) v' := by
  have n0 : some B0 ≠ v.ownBlock := h.b0.not_row (e := encRf.t) (by decide) h.own
  have n1 : some B1 ≠ v.ownBlock := h.b1.not_row (e := encRf.t) (by decide) h.own
  obtain ⟨a1, a2, a3, a4, a5⟩ := h.b2.appended (e := encRf.t) (by decide) h.own h.le.size hB2 ho hg
  exact ⟨a1.cell, a1.frozen, a4, ⟨box_other ((h.b0.alloc tmp).kept hg n0) h02 v', box_other ((h.b1.alloc tmp).kept hg n1) h12 v', a2, a3, h.le.trans a5⟩⟩
theorem keeps_below {w W : World} (h : Below w.heap.size w W) : KeepsOthers w W := KeepsOthers.of_grownBy (grown_below' h) fun j o e => by cases e
theorem stepX_len (s : Rd3) (x : ByteArray × Bool) (h : s.l.length ≤ 64) : (stepX s x).l.length ≤ 64 := by
  unfold stepX
  split
  · exact h
  · split
    · simp [rdNo]
    · split
      · simp [rdNo]
      · split
        · simp [rdNo]
        · split
          · simp [rdNo]
          · rename_i h64 _
            simp only [List.length_append, List.length_singleton]
            omega
theorem foldX_len : ∀ (l : List (ByteArray × Bool)) (s : Rd3), s.l.length ≤ 64 → (foldX l s).l.length ≤ 64
  | [], _, h => h
  | x :: l, s, h => foldX_len l _ (stepX_len s x h)
/-- what a line comes to -/
theorem step_no {pre : List Sx} {x : Sx} {L : List Fx} (h : foldX (plS pre) rd0 = ⟨rfL L, 0⟩) (hx : x.1.2 = false ∨ rdL (numsOf x.1.1) = none) : foldX (plS (pre ++ [x])) rd0 = rdNo 3 := by
  rw [plS_snoc, foldX_snoc, h]
  unfold stepX
  rw [if_neg (by simp)]
  rcases hx with hx | hx
  · rw [if_pos hx]
  · rw [hx]
    split <;> rfl
theorem step_full {pre : List Sx} {x : Sx} {L : List Fx} {r : Rf} (h : foldX (plS pre) rd0 = ⟨rfL L, 0⟩) (hx : x.1.2 = true) (hr : rdL (numsOf x.1.1) = some r) (hl : L.length = 64) : foldX (plS (pre ++ [x])) rd0 = rdNo 8 := by
  rw [plS_snoc, foldX_snoc, h]
  unfold stepX
  rw [if_neg (by simp), if_neg (by rw [hx]; decide), hr]
  dsimp only
  rw [if_pos (by rw [rfL_length]; exact hl)]
theorem step_twice {pre : List Sx} {x : Sx} {L : List Fx} {r : Rf} (h : foldX (plS pre) rd0 = ⟨rfL L, 0⟩) (hx : x.1.2 = true) (hr : rdL (numsOf x.1.1) = some r) (hl : ¬ L.length = 64) (ht : ((rfL L).any fun q => decide (q.dg = r.dg)) = true) : foldX (plS (pre ++ [x])) rd0 = rdNo 7 := by
  rw [plS_snoc, foldX_snoc, h]
  unfold stepX
  rw [if_neg (by simp), if_neg (by rw [hx]; decide), hr]
  dsimp only
  rw [if_neg (by rw [rfL_length]; exact hl), if_pos (by unfold twice; exact ht)]
theorem step_yes {pre : List Sx} {x : Sx} {L : List Fx} {q : Fx} (h : foldX (plS pre) rd0 = ⟨rfL L, 0⟩) (hx : x.1.2 = true) (hr : rdL (numsOf x.1.1) = some q.1) (hl : ¬ L.length = 64) (ht : ((rfL L).any fun y => decide (y.dg = q.1.dg)) = false) : foldX (plS (pre ++ [x])) rd0 = ⟨rfL (L ++ [q]), 0⟩ := by
  rw [plS_snoc, foldX_snoc, h]
  unfold stepX
  rw [if_neg (by simp), if_neg (by rw [hx]; decide), hr]
  dsimp only
  rw [if_neg (by rw [rfL_length]; exact hl), if_neg (by unfold twice; rw [ht]; decide), rfL_append]
  rfl
/-- 'append(l, x)' inside a fence -/
theorem wpListIn_append_rf {F : Fence} {n : Nat} {w : World} {ops : Array Oper} {rest : List Oper} {o : Oper} {a : Act} {Q : Exit → Act → World → Prop} (hgd : o.guard = none) (s x : Operand) (t : TypeId)
    (ho : o.op = .call { callee := .builtin .append, args := #[s, x], argTypes := #[t, t] }) (ht : Tryd.prog.underlying t = some (.slice encRf.t))
    (B : Nat) (v : Value) (L : List Fx) (hs : a.eval s = v) (hob : Gw encRf w B v L) (g : Nat) (q : Fx) (hx : a.eval x = .slice (some ⟨g, 0, none⟩) 1 1) (hbs : Gs encRf w (some ⟨g, 0, none⟩) 1 [q])
    (hbytes : L.length ≤ 1048576) (hB : B ≤ w.heap.size)
    (h : ∀ v' w', Gw encRf w' B v' (L ++ [q]) → w.grownBy w' v.ownBlock → wpListIn F n Tryd.prog ops Q rest (a.put o.dst v') w') : wpListIn F n Tryd.prog ops Q (o :: rest) a w := by
  obtain ⟨i, hi, hzz⟩ := Option.map_eq_some_iff.1 infoRf
  simp only [Prod.mk.injEq] at hzz
  obtain ⟨hz, hsz, hb⟩ := hzz
  refine wpListIn_append_own w hgd s x t ho B encRf.t i rfzero encRf.k 48 ht hi hz hsz hb rfzero_size encRf.pos v L.length (encRf.flat L) hs hob ⟨g, 0, none⟩ 1 1 (encRf.flat [q]) hx (encRf.flat_length [q]) ?_ (fun u hu => encRf.flat_one hu) (by unfold maxLen; omega) (by omega) hB ?_
  · intro j u hu
    have hj : j < 34 := by
      have := (List.getElem?_eq_some_iff.1 hu).1
      rw [encRf.flat_length] at this
      exact this
    rcases hbs.2 with h0 | ⟨b, off, hp, hc⟩
    · cases h0
    · simp only [Option.some.injEq, Addr.mk.injEq, and_true] at hp
      obtain ⟨rfl, rfl⟩ := hp
      have := hc 0 (by decide) j u (by rw [← hu]; show (encRf.f q)[j]? = (encRf.f q ++ [])[j]?; rw [List.append_nil])
      rw [WideShapes.add_plain]
      simpa using this
  · intro v' w' h1 h2 _
    refine h v' w' ?_ h2
    unfold Gw
    rw [List.length_append, encRf.flat_append]
    exact h1
theorem foldX_in : ∀ (l : List (ByteArray × Bool)) (s : Rd3), ∀ r ∈ (foldX l s).l, r ∈ s.l ∨ (dok r.dg ∧ r.norm = r ∧ sizeOk r = true)
  | [], _, r, hr => Or.inl hr
  | x :: l, s, r, hr => by
    rcases foldX_in l _ r hr with h | h
    · unfold stepX at h
      split at h
      · exact Or.inl h
      · split at h
        · cases h
        · cases hd : rdL (numsOf x.1) with
          | none => rw [hd] at h; cases h
          | some y =>
            rw [hd] at h
            dsimp only at h
            split at h
            · cases h
            · split at h
              · cases h
              · rcases List.mem_append.1 h with h | h
                · exact Or.inl h
                · rw [List.mem_singleton] at h
                  subst h
                  exact Or.inr ⟨(rdL_ok hd).1, (rdL_ok hd).2, (rdL_line hd).2⟩
    · exact Or.inr h
theorem foldX_ok (l : List (ByteArray × Bool)) : ∀ r ∈ (foldX l ⟨[], 0⟩).l, r.Ok := fun r hr => by
  rcases foldX_in l _ r hr with h | ⟨h1, h2, h3⟩
  · cases h
  · refine ⟨h1, ?_⟩
    unfold Rf.norm at h2
    by_cases hm : r.m = true
    · rw [if_pos hm] at h2
      rw [← h2]
      show _ ≤ (0 : Int) ∧ (0 : Int) ≤ _
      omega
    · unfold sizeOk at h3
      rw [show r.m = false by simpa using hm, Bool.false_or] at h3
      have := of_decide_eq_true h3
      omega
theorem numsOf_mem (s : ByteArray) : ∀ x ∈ numsOf s, 0 ≤ x ∧ x < 256 := fun x hx => by
  obtain ⟨y, _, rfl⟩ := List.mem_map.1 hx
  have := y.toNat_lt
  omega
theorem hd11_str : numsOf ⟨#[115, 116, 105, 108, 108, 97, 103, 101, 32, 49, 10]⟩ = hd11 := by decide
set_option maxRecDepth 100000 in
set_option maxHeartbeats 2000000 in
theorem cmread_yes (p : Option Addr) (len cap : Nat) (zs b : List Int) (w : World) (h : Bs w p len zs) (hp : p = none → cap = 0) (hlc : len ≤ cap) (hcm : cap ≤ maxLen) (hn : len ≤ 1048576) (hK : Lw w) (hb : zs = hd11 ++ b) :
    Calls Tryd.prog 10 #[.slice p len cap] w fun e w' => RdQ w zs e w' := by
  obtain ⟨s, hs⟩ : ∃ s, strOfNums zs = s := ⟨_, rfl⟩
  have hns : numsOf s = zs := by rw [← hs]; exact numsOf_strOfNums h.2.1
  have hcv := fun W (hW : Below w.heap.size w W) => (h.later hW).run_string (P := Tryd.prog) 23 5 9 Tryd.underlying23 Tryd.underlying5 Tryd.underlying9 cap
  rw [hs] at hcv
  have htk : (numsOf s).take hd11.length = hd11 := by rw [hns, hb, List.take_left]
  have HCP := Lib.hid fun W => cut_any s ⟨#[115, 116, 105, 108, 108, 97, 103, 101, 32, 49, 10]⟩ W
  rw [hp_take s _ hd11_str, decide_eq_true htk] at HCP
  have hnt := trim_yes s _ hd11_str htk
  rw [hns, hb, List.drop_left] at hnt
  have hts := trim_sz s ⟨#[115, 116, 105, 108, 108, 97, 103, 101, 32, 49, 10]⟩
  have hss : s.size = len := by rw [← numsOf_length, hns, h.1]
  generalize (⟨(Lib.trimPrefix s.data.toList (⟨#[115, 116, 105, 108, 108, 97, 103, 101, 32, 49, 10]⟩ : ByteArray).data.toList).toArray⟩ : ByteArray) = t at *
  have HTZ : Hid (t.size ≤ 1048576) := Lib.hid (by omega)
  have HNT := Lib.hid hnt
  have HRF := Lib.hid (rdF_head hb)
  obtain ⟨wA, hA⟩ : ∃ W, (w.alloc (.cells #[.slice none 0 0] 22)).alloc (.cells #[.int .i64 0] 24) = W := ⟨_, rfl⟩
  have hbA : Below w.heap.size w wA := by rw [← hA]; exact ((Below.refl _ w).alloc (Nat.le_refl _) _).alloc (by simp) _
  have hsA : wA.heap.size = w.heap.size + 2 := by rw [← hA]; simp
  have hx0 : Boxed wA w.heap.size 22 (.slice none 0 0) := by rw [← hA]; exact (Boxed.new w _ _).alloc _
  have hx1 : Boxed wA (w.heap.size + 1) 24 (.int .i64 0) := by
    have h1 := Boxed.new (w.alloc (.cells #[.slice none 0 0] 22)) 24 (.int .i64 0)
    rw [hA, World.size_alloc] at h1
    exact h1
  have hcv0 := hcv wA hbA
  obtain ⟨wC, hC⟩ : ∃ W, wA.alloc (.cells #[.slice none 0 0] 22) = W := ⟨_, rfl⟩
  obtain ⟨wD, hD⟩ : ∃ W, wC.alloc (.cells #[.string t] 9) = W := ⟨_, rfl⟩
  have hbC : Below wA.heap.size wA wC := by rw [← hC]; exact (Below.refl _ _).alloc (Nat.le_refl _) _
  have hbD : Below wC.heap.size wC wD := by rw [← hD]; exact (Below.refl _ _).alloc (Nat.le_refl _) _
  have hsC : wC.heap.size = wA.heap.size + 1 := by rw [← hC]; simp
  have hx2 : Boxed wC wA.heap.size 22 (.slice none 0 0) := by rw [← hC]; exact Boxed.new _ _ _
  have hx3 : Boxed wD wC.heap.size 9 (.string t) := by rw [← hD]; exact Boxed.new _ _ _
  obtain ⟨B1, hB1⟩ : ∃ g, w.heap.size + 1 = g := ⟨_, rfl⟩
  obtain ⟨B2, hB2⟩ : ∃ g, wA.heap.size = g := ⟨_, rfl⟩
  obtain ⟨B3, hB3⟩ : ∃ g, wC.heap.size = g := ⟨_, rfl⟩
  have HJ0 : Hid (RdJ w wD w.heap.size B1 B2 [] (.slice none 0 0)) := Lib.hid (by
    have g : ∀ {B : Nat} {T : TypeId} {v : Value} {X Y : World}, Boxed X B T v → Below X.heap.size X Y → Boxed Y B T v := fun h hb => (hb.block _ h.lt).trans h
    exact ⟨g (g hx0 hbC) hbD, by rw [← hB1]; exact g (g hx1 hbC) hbD, by rw [← hB2]; exact g hx2 hbD, Gw.nil _ _ _, below_step (below_step hbA hbC) hbD⟩)
  have HX3 : Hid (Boxed wD B3 9 (.string t)) := Lib.hid (by rw [← hB3]; exact hx3)
  have HBS : Hid (B1 = w.heap.size + 1 ∧ B2 = w.heap.size + 2 ∧ B3 = w.heap.size + 3) := Lib.hid (by omega)
  have HSD : Hid (w.heap.size ≤ wD.heap.size) := Lib.hid (by have := HJ0.out.le.size; omega)
  have HLI := Lib.hid fun W => mlines_any t W
  have hLW := Lib.hid hK
  clear hK
  clear hcv htk hnt hts hss hs hns hb hbA hbC hbD hsA hsC hx0 hx1 hx2 hx3 h hp hlc hcm hn
  refine (callsIn_wide (n := 8)).1 ?_
  refine callsIn_of_wp_marks Tryd.func10 rfl trivial ?_ rfl
  simp only [Tryd.ntmps10, List.size_toArray, List.length_cons, List.length_nil, Nat.reduceAdd, Nat.reduceSub, Array.replicate_succ, Array.replicate_zero, List.push_toArray, List.append_toArray, List.nil_append, List.cons_append]
  refine wpIn_wide.2 ?_
  go_wp2_with (first
    | (go_at_call 18; refine (HCP.out _).mono ?_; rintro e w1 ⟨rfl, rfl⟩)
    | (go_at_call 19; refine (HLI.out _).mono ?_; rintro e w1 ⟨rfl, hw1⟩))
  rw [hD] at hw1
  subst hw1
  refine (wpIn_wide (n := 6)).1 ?_
  refine wpIn_rangeFunc_ownF rfl (by decide) (gf := 29) (lb := #[.pointer (some ⟨B3, 0, none⟩)]) rfl trivial (enters_of Tryd.func29 (by kernel_rfl) rfl)
    (mlns_stops 5 (by decide) B3 t HTZ.out (fun _ _ => True) wD HX3.out) (fun _ _ => trivial) (fun _ _ _ _ _ _ _ _ => trivial) (Below.refl _ _) (fun _ => rfl)
    (RdI w w.heap.size B1 B2) (RdX w w.heap.size B1) (rdI_own w _ _ _ _ HSD.out) (fun c => rdX_own w _ _ _ HSD.out c) ⟨[], _, HJ0.out, rfl⟩
    (fun x => { tmps := #[.slice p len cap, undef, .pointer (some ⟨w.heap.size, 0, none⟩), .pointer (some ⟨B1, 0, none⟩), .string t, .bool true, .pointer (some ⟨B2, 0, none⟩), .string x.1.1, .bool x.1.2, undef, undef, .tuple #[.string t, .bool true], .slice p len cap, .string s, .tuple #[.string t, .bool true], .string t, .bool true, .bool true, .bool false, .string t, .func (.func 29) #[] #[.pointer (some ⟨B3, 0, none⟩)], .string x.1.1, .bool x.1.2, undef, undef, undef, undef, undef, undef, undef, undef, undef, undef, undef, undef, undef, undef, undef, undef, undef, undef, undef, undef, undef, undef, undef, undef, undef, undef], defers := [] }) ?assign ?body ?done ?stop
  case assign =>
    intro l x W K hK
    unfold encSx
    gi_wp2
    exact hK
  case body =>
    rintro l pre x W ⟨L, v, hJ, hFO⟩ hlt
    obtain ⟨q, c, rfl, hqc, hcm, hgs, hqn⟩ := hJ.own.open
    obtain ⟨H1, H2, H3⟩ := HBS.out
    have hl64 : L.length ≤ 64 := by
      have h1 := foldX_len (plS pre) rd0 (by decide)
      rw [hFO] at h1
      have h2 : (rfL L).length ≤ 64 := h1
      rwa [rfL_length] at h2
    have h01 : B1 ≠ w.heap.size := by omega
    have h02 : w.heap.size ≠ B2 := by omega
    have h12 : B1 ≠ B2 := by omega
    have hB1le : w.heap.size ≤ B1 := by omega
    have hB2le : w.heap.size ≤ B2 := by omega
    have HRL := Lib.hid (mrline_any x.1.1 W (by have := x.2; omega) (hLW.out.later hJ.le))
    have HJ := Lib.hid hJ
    have HFO := Lib.hid hFO
    have HXD : Hid (((rdL (numsOf x.1.1)).getD rf0).dg.length = 32) := Lib.hid (opt_dg fun r h => (rdL_dg h).1)
    have HNO := Lib.hid fun h => step_no (x := x) hFO h
    have HFU := Lib.hid fun r hx hr hl => step_full (x := x) (r := r) hFO hx hr hl
    have HTW := Lib.hid fun r hx hr hl ht => step_twice (x := x) (r := r) hFO hx hr hl ht
    have HYE := Lib.hid fun q hx hr hl ht => step_yes (x := x) (q := q) hFO hx hr hl ht
    obtain ⟨one, h1⟩ : ∃ o, x.1.1 = o := ⟨_, rfl⟩
    obtain ⟨en, h2⟩ : ∃ o, x.1.2 = o := ⟨_, rfl⟩
    rw [h1] at HRL HXD HNO HFU HTW HYE
    rw [h2] at HNO HFU HTW HYE
    unfold Rf.v at HRL
    rw [h1, h2]
    clear hJ hFO h1 h2 H1 H2 H3 hB1 hB2 hB3 hA hC hD hcv0
    dsimp only
    cases hen : en with
    | false =>
      have HE := Lib.hid (HNO.out (Or.inl hen))
      obtain ⟨R, hR⟩ : ∃ R, (rdL (numsOf one)).getD rf0 = R := ⟨_, rfl⟩
      obtain ⟨bo, hbo⟩ : ∃ R, (rdL (numsOf one)).isSome = R := ⟨_, rfl⟩
      rw [hR, hbo] at HRL
      rw [hR] at HXD
      clear HNO HFU HTW HYE hR hbo
      gi_wp2_with (first
        | (refine ⟨trivial, ?_⟩; gi_at_call 20; refine (CallsIn.inRound l (callsIn_wide.2 HRL.out)).mono ?_; rintro e w1 ⟨rfl, hb1⟩; have HB1 := Lib.hid hb1; clear hb1)
        | (refine wpListIn_store_row rfl 41 _ _ rfl w1.heap.size _ rfl rfl 41 _ (heap_alloc_new _ _) (Rf.sizeOf R HXD.out) (Rf.sizes rf0 R rfl HXD.out) R.one ?_; generalize hw2 : World.setRow _ _ _ = w2; have HLY := Lib.hid (lay_rf hw2); have HB2 := Lib.hid (below_step HB1.out HLY.out.2); have HJ2 := Lib.hid (HJ.out.later HB2.out); obtain ⟨c0, f0, c1, f1, c2, f2⟩ := HJ2.out.cells h01 (.slice none 0 0); clear hw2))
      obtain ⟨t1, t2, t3, t4, t5⟩ := HJ2.out.two h01 (Nat.le_refl _) hB1le (.slice none 0 0) (.int .i64 3)
      exact ⟨(keeps_below HB2.out).trans t1, rfl, 3, by decide, HE.out, t2, t3, t4⟩
    | true =>
      cases hr : rdL (numsOf one) with
      | none =>
        have HE := Lib.hid (HNO.out (Or.inr hr))
        rw [hr] at HRL HXD
        obtain ⟨R, hR⟩ : ∃ R, (none : Option Rf).getD rf0 = R := ⟨_, rfl⟩
        rw [hR, show (none : Option Rf).isSome = false from rfl] at HRL
        rw [hR] at HXD
        clear HNO HFU HTW HYE hR hr
        gi_wp2_with (first
          | (refine ⟨trivial, ?_⟩; gi_at_call 20; refine (CallsIn.inRound l (callsIn_wide.2 HRL.out)).mono ?_; rintro e w1 ⟨rfl, hb1⟩; have HB1 := Lib.hid hb1; clear hb1)
          | (refine wpListIn_store_row rfl 41 _ _ rfl w1.heap.size _ rfl rfl 41 _ (heap_alloc_new _ _) (Rf.sizeOf R HXD.out) (Rf.sizes rf0 R rfl HXD.out) R.one ?_; generalize hw2 : World.setRow _ _ _ = w2; have HLY := Lib.hid (lay_rf hw2); have HB2 := Lib.hid (below_step HB1.out HLY.out.2); have HJ2 := Lib.hid (HJ.out.later HB2.out); obtain ⟨c0, f0, c1, f1, c2, f2⟩ := HJ2.out.cells h01 (.slice none 0 0); clear hw2))
        obtain ⟨t1, t2, t3, t4, t5⟩ := HJ2.out.two h01 (Nat.le_refl _) hB1le (.slice none 0 0) (.int .i64 3)
        exact ⟨(keeps_below HB2.out).trans t1, rfl, 3, by decide, HE.out, t2, t3, t4⟩
      | some R =>
        have HRR := Lib.hid hr
        have HEN := Lib.hid hen
        rw [hr] at HRL HXD
        rw [show (some R).getD rf0 = R from rfl, show (some R).isSome = true from rfl] at HRL
        rw [show (some R).getD rf0 = R from rfl] at HXD
        have HDK : Hid (dok R.dg) := Lib.hid (rdL_dg hr).1
        have HLK : Hid (∀ y ∈ L, y.1.Ok) := Lib.hid (fun y hy => foldX_ok (plS pre) y.1 (by rw [show (⟨[], 0⟩ : Rd3) = rd0 from rfl]; rw [HFO.out]; exact List.mem_map_of_mem hy))
        clear HNO hr
        by_cases h64 : L.length = 64
        · have HE := Lib.hid (HFU.out R hen HRR.out h64)
          have hb64 : ((L.length : Int) == 64) = true := by rw [h64]; rfl
          clear HFU HTW HYE h64 hen
          gi_wp2_with (first
            | (refine ⟨trivial, ?_⟩; gi_at_call 20; refine (CallsIn.inRound l (callsIn_wide.2 HRL.out)).mono ?_; rintro e w1 ⟨rfl, hb1⟩; have HB1 := Lib.hid hb1; clear hb1)
            | (refine wpListIn_store_row rfl 41 _ _ rfl w1.heap.size _ rfl rfl 41 _ (heap_alloc_new _ _) (Rf.sizeOf R HXD.out) (Rf.sizes rf0 R rfl HXD.out) R.one ?_; generalize hw2 : World.setRow _ _ _ = w2; have HLY := Lib.hid (lay_rf hw2); have HB2 := Lib.hid (below_step HB1.out HLY.out.2); have HJ2 := Lib.hid (HJ.out.later HB2.out); obtain ⟨c0, f0, c1, f1, c2, f2⟩ := HJ2.out.cells h01 (.slice none 0 0); clear hw2))
          obtain ⟨t1, t2, t3, t4, t5⟩ := HJ2.out.two h01 (Nat.le_refl _) hB1le (.slice none 0 0) (.int .i64 8)
          exact ⟨(keeps_below HB2.out).trans t1, rfl, 8, by decide, HE.out, t2, t3, t4⟩
        · have hb64 : ((L.length : Int) == 64) = false := by rw [beq_eq_false_iff_ne]; omega
          have HHA := Lib.hid fun W' hW' => mhas_any q L.length c L R.dg W' hW' HLK.out HDK.out (by omega)
          cases ht : (rfL L).any (fun y => decide (y.dg = R.dg)) with
          | true =>
            have HE := Lib.hid (HTW.out R hen HRR.out h64 ht)
            rw [ht] at HHA
            clear HFU HTW HYE h64 hen ht
            gi_wp2_with (first
              | (refine ⟨trivial, ?_⟩; gi_at_call 20; refine (CallsIn.inRound l (callsIn_wide.2 HRL.out)).mono ?_; rintro e w1 ⟨rfl, hb1⟩; have HB1 := Lib.hid hb1; clear hb1)
              | (refine wpListIn_store_row rfl 41 _ _ rfl w1.heap.size _ rfl rfl 41 _ (heap_alloc_new _ _) (Rf.sizeOf R HXD.out) (Rf.sizes rf0 R rfl HXD.out) R.one ?_; generalize hw2 : World.setRow _ _ _ = w2; have HLY := Lib.hid (lay_rf hw2); have HB2 := Lib.hid (below_step HB1.out HLY.out.2); have HJ2 := Lib.hid (HJ.out.later HB2.out); obtain ⟨c0, f0, c1, f1, c2, f2⟩ := HJ2.out.cells h01 (.slice none 0 0); clear hw2)
              | (refine wpListIn_ld rfl 39 _ rfl _ rfl _ (Mx.loadDig (P := Tryd.prog) HLY.out.1 39 Tryd.underlying39 rfl (by rw [HXD.out]; exact size32) 1 rfl) ?_)
              | (refine ⟨trivial, ?_⟩; gi_at_call 14; refine (CallsIn.inRound l (callsIn_wide.2 (HHA.out _ HJ2.out.own.gs))).mono ?_; rintro e w3 ⟨rfl, hb3⟩; have HB3 := Lib.hid (below_step HB2.out hb3); have HJ3 := Lib.hid (HJ2.out.later hb3); have HF3 : Hid (Fm w3 w1.heap.size R) := Lib.hid (HLY.out.1.later hb3); clear hb3 c0 f0 c1 f1 c2 f2; obtain ⟨c0, f0, c1, f1, c2, f2⟩ := HJ3.out.cells h01 (.slice none 0 0)))
            obtain ⟨t1, t2, t3, t4, t5⟩ := HJ3.out.two h01 (Nat.le_refl _) hB1le (.slice none 0 0) (.int .i64 7)
            exact ⟨(keeps_below HB3.out).trans t1, rfl, 7, by decide, HE.out, t2, t3, t4⟩
          | false =>
            have HE := Lib.hid (HYE.out ⟨R, HXD.out⟩ hen HRR.out h64 ht)
            rw [ht] at HHA
            clear HFU HTW HYE h64 hen ht
            gi_wp2_with (first
              | (refine ⟨trivial, ?_⟩; gi_at_call 20; refine (CallsIn.inRound l (callsIn_wide.2 HRL.out)).mono ?_; rintro e w1 ⟨rfl, hb1⟩; have HB1 := Lib.hid hb1; clear hb1)
              | (refine wpListIn_store_row rfl 41 _ _ rfl w1.heap.size _ rfl rfl 41 _ (heap_alloc_new _ _) (Rf.sizeOf R HXD.out) (Rf.sizes rf0 R rfl HXD.out) R.one ?_; generalize hw2 : World.setRow _ _ _ = w2; have HLY := Lib.hid (lay_rf hw2); have HB2 := Lib.hid (below_step HB1.out HLY.out.2); have HJ2 := Lib.hid (HJ.out.later HB2.out); obtain ⟨c0, f0, c1, f1, c2, f2⟩ := HJ2.out.cells h01 (.slice none 0 0); clear hw2)
              | (refine wpListIn_ld rfl 39 _ rfl _ rfl _ (Mx.loadDig (P := Tryd.prog) HLY.out.1 39 Tryd.underlying39 rfl (by rw [HXD.out]; exact size32) 1 rfl) ?_)
              | (refine ⟨trivial, ?_⟩; gi_at_call 14; refine (CallsIn.inRound l (callsIn_wide.2 (HHA.out _ HJ2.out.own.gs))).mono ?_; rintro e w3 ⟨rfl, hb3⟩; have HB3 := Lib.hid (below_step HB2.out hb3); have HJ3 := Lib.hid (HJ2.out.later hb3); have HF3 : Hid (Fm w3 w1.heap.size R) := Lib.hid (HLY.out.1.later hb3); clear hb3 c0 f0 c1 f1 c2 f2; obtain ⟨c0, f0, c1, f1, c2, f2⟩ := HJ3.out.cells h01 (.slice none 0 0))
              | (refine wpListIn_ld rfl 41 _ rfl _ rfl _ (HF3.out.load HXD.out) ?_)
              | (refine wpListIn_build_rf rfl 22 45 rfl Tryd.underlying22 ⟨R, HXD.out⟩ rfl ?_)
              | (refine wpListIn_append_rf rfl _ _ 22 rfl Tryd.underlying22 w.heap.size _ L rfl (HJ3.out.own.alloc _) w3.heap.size ⟨R, HXD.out⟩ rfl (Gs.oneRf w3 ⟨R, HXD.out⟩) (by omega) (by have := HJ3.out.le.size; rw [World.size_alloc]; omega) ?_; intro v5 w5 ho5 hg5; obtain ⟨p5, c5, hv5, _⟩ := ho5.open; rw [List.length_append, List.length_singleton] at hv5; subst hv5; have hm5 := HJ3.out.more h02 h12 hB2le ho5 hg5; have HM5 := Lib.hid hm5; obtain ⟨cA, fA, _, _⟩ := hm5; clear ho5 hg5))
            exact ⟨(keeps_below HB3.out).trans HM5.out.2.2.1, trivial, _, _, HM5.out.2.2.2, HE.out⟩
  case done =>
    rintro D ys W hDD hys ⟨L, v, hJ, hFO⟩ hDF
    obtain ⟨q, c, rfl, hqc, hcm, hgs, hqn⟩ := hJ.own.open
    obtain ⟨H1, H2, H3⟩ := HBS.out
    have h01 : B1 ≠ w.heap.size := by omega
    have hB1le : w.heap.size ≤ B1 := by omega
    obtain ⟨c0, f0, c1, f1, c2, f2⟩ := hJ.cells h01 (.slice q L.length c)
    obtain ⟨t1, t2, t3, t4, t5⟩ := hJ.two h01 (Nat.le_refl _) hB1le (.slice q L.length c) (.int .i64 0)
    have HT := Lib.hid (And.intro t1 (And.intro t2 (And.intro t3 (And.intro t4 t5))))
    have HF : Hid (rdF zs = ⟨rfL L, 0⟩) := Lib.hid (by
      rw [HRF.out, ← HNT.out]
      have h1 := foldX_all _ (numsOf t) (Nat.le_refl _) (numsOf_mem t) []
      rw [← h1, ← hys]
      exact hFO)
    have HDF := Lib.hid hDF
    have HDD := Lib.hid (Nat.le_trans HSD.out hDD)
    have HQ := Lib.hid (And.intro hqc (And.intro hcm hqn))
    clear hJ hFO hgs H1 H2 H3 hB1 hB2 hB3 hA hC hD hcv0 t1 t2 t3 t4 t5 hys hDF hDD hqc hcm hqn
    gi_wp2
    go_wp2
    have hK5 := HT.out.1.same D _ HDF.out rfl
    have c5 := (box_keep (n := 0) HT.out.2.1 (grownBy_putObj' _ D (.deferred none)) (fun r e => by cases e; exact ⟨Nat.zero_le _, _, hK5, rfl⟩)).cell
    have c6 := (box_keep (n := 0) HT.out.2.2.1 (grownBy_putObj' _ D (.deferred none)) (fun r e => by cases e; exact ⟨Nat.zero_le _, _, hK5, rfl⟩)).cell
    have g5 := gw_keep (n := 0) HT.out.2.2.2.2 (grownBy_putObj' _ D (.deferred none)) (fun r e => by cases e; exact ⟨Nat.zero_le _, _, hK5, rfl⟩)
    refine ⟨by simp, .inl ⟨_, _, rfl, run_takeDeferred hK5, ?_⟩⟩
    refine ⟨.tuple #[.slice q L.length c, .int .i64 0], ?_, RdQ.of HF.out q L.length c L g5.gs rfl HQ.out.1 HQ.out.2.1 HQ.out.2.2 (HT.out.2.2.2.1.trans (belowK_b (w := w) (Nat.le_refl _) _ D _ _ HDD.out hK5 rfl rfl)) rfl⟩
    simp [results, Tryd.f10, go_sem, c5, c6]
  case stop =>
    rintro D c pre W hDD hpre ⟨rfl, e, he, hf, hb0, hb1, hle⟩ hDF
    have HF : Hid (rdF zs = rdNo e) := Lib.hid (by
      rw [HRF.out, ← HNT.out]
      have h1 := foldX_all _ (numsOf t) (Nat.le_refl _) (numsOf_mem t) []
      rw [← h1, foldX_prefix hpre (by show (foldX (plS pre) rd0).err ≠ 0; rw [hf]; exact he)]
      exact hf)
    have c5 := (box_keep (n := 0) hb0 (grownBy_putObj' _ D (.deferred none)) (fun r e => by cases e; exact ⟨Nat.zero_le _, _, hDF, rfl⟩)).cell
    have c6 := (box_keep (n := 0) hb1 (grownBy_putObj' _ D (.deferred none)) (fun r e => by cases e; exact ⟨Nat.zero_le _, _, hDF, rfl⟩)).cell
    have HDD := Lib.hid (Nat.le_trans HSD.out hDD)
    clear hB1 hB2 hB3 hA hC hD hcv0 hDD
    gi_wp2
    refine ⟨by simp, .inl ⟨_, _, rfl, run_takeDeferred hDF, ?_⟩⟩
    refine ⟨.tuple #[.slice none 0 0, .int .i64 e], ?_, RdQ.of HF.out none 0 0 [] (Gs.empty _ _ _) rfl (Nat.le_refl _) (by simp) (fun _ => rfl) (hle.trans (belowK_b (w := w) (Nat.le_refl _) _ D _ _ HDD.out hDF rfl rfl)) rfl⟩
    simp [results, Tryd.f10, go_sem, c5, c6]
end Go.Proofs.YtahjofjblhpndaaDoor

namespace Go.Proofs.YtahjofjblhpndaaDoor
set_option linter.unusedVariables false
open Go.RowKit Go.Lib Go.Shelf

set_option maxRecDepth 100000 in
set_option maxHeartbeats 2000000 in
theorem cmread_no (p : Option Addr) (len cap : Nat) (zs : List Int) (w : World) (h : Bs w p len zs) (hb : ¬ hd11 <+: zs) :
    Calls Tryd.prog 10 #[.slice p len cap] w fun e w' => RdQ w zs e w' := by
  obtain ⟨s, hs⟩ : ∃ s, strOfNums zs = s := ⟨_, rfl⟩
  have hns : numsOf s = zs := by rw [← hs]; exact numsOf_strOfNums h.2.1
  have hcv := fun W (hW : Below w.heap.size w W) => (h.later hW).run_string (P := Tryd.prog) 23 5 9 Tryd.underlying23 Tryd.underlying5 Tryd.underlying9 cap
  rw [hs] at hcv
  have htk : ¬ (numsOf s).take hd11.length = hd11 := fun e => hb (by
    rw [← hns, ← e]
    exact List.take_prefix _ _)
  have HCP := Lib.hid fun W => cut_any s ⟨#[115, 116, 105, 108, 108, 97, 103, 101, 32, 49, 10]⟩ W
  rw [hp_take s _ hd11_str, decide_eq_false htk, trim_no s _ hd11_str htk] at HCP
  have HRF := Lib.hid (rdF_none hb)
  obtain ⟨wA, hA⟩ : ∃ W, (w.alloc (.cells #[.slice none 0 0] 22)).alloc (.cells #[.int .i64 0] 24) = W := ⟨_, rfl⟩
  have hbA : Below w.heap.size w wA := by rw [← hA]; exact ((Below.refl _ w).alloc (Nat.le_refl _) _).alloc (by simp) _
  have hx0 : Boxed wA w.heap.size 22 (.slice none 0 0) := by rw [← hA]; exact (Boxed.new w _ _).alloc _
  have hx1 : Boxed wA (w.heap.size + 1) 24 (.int .i64 0) := by
    have h1 := Boxed.new (w.alloc (.cells #[.slice none 0 0] 22)) 24 (.int .i64 0)
    rw [hA, World.size_alloc] at h1
    exact h1
  have hcv0 := hcv wA hbA
  obtain ⟨B1, hB1⟩ : ∃ g, w.heap.size + 1 = g := ⟨_, rfl⟩
  rw [hB1] at hx1
  have HJ : Hid (RdJ w wA w.heap.size B1 w.heap.size [] (.slice none 0 0)) := Lib.hid ⟨hx0, hx1, hx0, Gw.nil _ _ _, hbA⟩
  have h01 : B1 ≠ w.heap.size := by omega
  have hB1le : w.heap.size ≤ B1 := by omega
  obtain ⟨c0, f0, c1, f1, c2, f2⟩ := HJ.out.cells h01 (.slice none 0 0)
  obtain ⟨t1, t2, t3, t4, t5⟩ := HJ.out.two h01 (Nat.le_refl _) hB1le (.slice none 0 0) (.int .i64 3)
  have c5 := t2.cell
  have c6 := t3.cell
  have HT4 := Lib.hid t4
  clear hcv htk hs hns hb hbA hx0 hx1 h t1 t2 t3 t4 t5
  go_enter Tryd.func10, Tryd.ntmps10
  go_wp2_with (first
    | (go_at_call 18; refine (HCP.out _).mono ?_; rintro e w1 ⟨rfl, rfl⟩))
  refine bodyPost_ret (v := .tuple #[.slice none 0 0, .int .i64 3]) ?_ rfl ?_
  · simp [results, Tryd.f10, go_sem, c5, c6]
  · exact RdQ.of HRF.out none 0 0 [] (Gs.empty _ _ _) rfl (Nat.le_refl _) (by simp) (fun _ => rfl) HT4.out rfl
theorem cmread_ok : cmReadOk Lw := by
  intro p len cap zs w h hp hlc hcm hn hK
  by_cases hb : hd11 <+: zs
  · obtain ⟨b, hb⟩ := hb
    exact cmread_yes p len cap zs b w h hp hlc hcm hn hK hb.symm
  · exact cmread_no p len cap zs w h hb
end Go.Proofs.YtahjofjblhpndaaDoor
