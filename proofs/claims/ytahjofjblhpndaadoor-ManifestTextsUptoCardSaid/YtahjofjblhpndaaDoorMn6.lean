/- Regions that draw their order: an operation that its guard passes over; A region that draws its order, only reads, and whose callees lay blocks of their own: walked once, in the order of the text, in whatever world that has all that is below as it was -/
import Derived.Test.YtahjofjblhpndaaDoorMn2
import Derived.Deep.RegionHeld3
import Derived.StillTail
import Derived.Deep.MidRow
import Derived.StillTactics
import Derived.Deep.QuietTactic
set_option linter.unusedSimpArgs false
set_option linter.unusedVariables false
namespace Go.Proofs.YtahjofjblhpndaaDoor
set_option linter.unusedVariables false
open Go.RowKit Go.Lib

/-- An operation that its guard passes over. -/
theorem wpStill_skip {P : Program} {ops : Array Oper} {w : World} {Q : Act → Prop} {a : Act} {o : Oper} {rest : List Oper} (hw : Region.wanted o (yielded ops a.tmps) = false) (h : wpStill P ops w Q rest (a.put o.dst undef)) : wpStill P ops w Q (o :: rest) a :=
  wpStill_step fun K hK => by rw [if_neg (by rw [hw]; exact Bool.false_ne_true)]; exact hK _ h

/-- 'append(s, x...)', s of the call's own, x any bytes: at one operation. -/
theorem wp_append_bytes {P : Program} {w : World} {o : Oper} {a : Act} {K : Act → World → Prop} {Q : Exit → Act → World → Prop} (s x : Operand) (t e : TypeId)
    (ho : o.op = .call { callee := .builtin .append, args := #[s, x], argTypes := #[t, t] }) (ht : P.underlying t = some (.slice e))
    (hinfo : (P.info? e).map (fun i => (i.zero, i.size, i.bytes)) = some (some (.int .u8 0), 1, 1))
    (B : Nat) (v : Value) (zs : List Int) (hs : a.eval s = v) (hob : Ob w B e v zs) (p : Option Addr) (m c : Nat) (ys : List Int) (hx : a.eval x = .slice p m c) (hbs : Bs w p m ys) (hpc : p = none → c = 0)
    (hbytes : zs.length + m ≤ 140737488355328) (hB : B ≤ w.heap.size)
    (h : ∀ v' w', Ob w' B e v' (zs ++ ys) → w.grownBy w' v.ownBlock → K (a.put o.dst v') w') : o.wp P a w K Q := by
  obtain ⟨i, hi, hzz⟩ := Option.map_eq_some_iff.1 hinfo
  simp only [Prod.mk.injEq] at hzz
  obtain ⟨hz, hsz, hb⟩ := hzz
  obtain ⟨hy1, hy2, hy3⟩ := hbs
  cases p with
  | none =>
    obtain rfl := hpc rfl
    have hm : m = 0 := by
      rcases hy3 with h0 | ⟨_, _, hh, _⟩
      · exact h0
      · cases hh
    subst hm
    obtain rfl : ys = [] := List.length_eq_zero_iff.1 hy1
    have hrun := run_append_owned_none (P := P) (w := w) B t o.type e i 1 ht hi v _ _ hob.2
    unfold Oper.wp
    simp [execOp, ho, resolve, invoke, builtin, hs, hx, hrun, Result.andThen]
    exact h _ _ (by rw [List.append_nil]; exact hob) ⟨rfl, rfl, rfl, Nat.le_refl _, fun _ _ _ => rfl⟩
  | some ad =>
    refine wp_append_own _ s x t ho B e i (.int .u8 0) 1 1 ht hi hz hsz hb rfl (by decide) v _ _ hs hob.2 ad m c (ys.map (Value.int .u8)) hx (by simpa using hy1) ?_ ?_ (by unfold maxLen; omega) (by omega) hB ?_
    · intro j u hu
      have hj : j < m := by
        rcases Nat.lt_or_ge j m with h | h
        · exact h
        · rw [List.getElem?_eq_none (by simpa [hy1] using h)] at hu; cases hu
      rcases hy3 with h0 | ⟨b, off, hp, hc⟩
      · omega
      · obtain rfl : ad = ⟨b, off, none⟩ := by simpa using hp
        rw [WideShapes.add_plain, hc j hj]
        rw [List.getElem?_map] at hu
        rw [List.getD_eq_getElem?_getD]
        rw [List.getElem?_eq_getElem (by omega)] at hu ⊢
        simpa using hu
    · intro u hu
      obtain ⟨z, _, rfl⟩ := List.mem_map.1 hu
      rfl
    · intro v' w' h1 h2 _
      refine h v' w' ⟨bytes_append hob.1 hy2, ?_⟩ h2
      simpa [hy1] using h1

/-- .. at a step of a region that draws its order (go_region_held3's third argument). -/
theorem step_append_bytes {P : Program} {w : World} {ops : Array Oper} {o : Oper} {a : Act} {K : Act → World → Prop} {Q : Exit → Act → World → Prop} {E : Prop} (hgd : o.guard = none) (s x : Operand) (t e : TypeId)
    (ho : o.op = .call { callee := .builtin .append, args := #[s, x], argTypes := #[t, t] }) (ht : P.underlying t = some (.slice e))
    (hinfo : (P.info? e).map (fun i => (i.zero, i.size, i.bytes)) = some (some (.int .u8 0), 1, 1))
    (B : Nat) (v : Value) (zs : List Int) (hs : a.eval s = v) (hob : Ob w B e v zs) (p : Option Addr) (m c : Nat) (ys : List Int) (hx : a.eval x = .slice p m c) (hbs : Bs w p m ys) (hpc : p = none → c = 0)
    (hbytes : zs.length + m ≤ 140737488355328) (hB : B ≤ w.heap.size)
    (h : ∀ v' w', Ob w' B e v' (zs ++ ys) → w.grownBy w' v.ownBlock → K (a.put o.dst v') w') : if Region.wanted o (yielded ops a.tmps) = true then Oper.wp P o a w K Q else E := by
  have hw : Region.wanted o (yielded ops a.tmps) = true := by simp [Region.wanted, hgd]
  rw [if_pos hw]
  exact wp_append_bytes s x t e ho ht hinfo B v zs hs hob p m c ys hx hbs hpc hbytes hB h

/-- An operation of a plain region, guarded or not, that is carried out. -/
theorem wpList_wanted {P : Program} {ops : Array Oper} {Q : Exit → Act → World → Prop} {a : Act} {w : World} {rest : List Oper} {o : Oper} (hw : Region.wanted o (yielded ops a.tmps) = true)
    (h : ∀ K : Act → World → Prop, (∀ a w, wpList P ops Q rest a w → K a w) → o.wp P a w K Q) : wpList P ops Q (o :: rest) a w := by
  unfold wpList
  rw [if_pos hw]
  exact Or.inl (h _ fun _ _ h => h)

/- A region that draws its order, by hand as far as two loads of whole arrays want it. -/
theorem getElem?_of_drop {α : Type} {l tl : List α} {i : Nat} {x : α} (h : l.drop i = x :: tl) : l.toArray[i]? = some x := by
  rw [List.getElem?_toArray]
  have := congrArg (fun y => y[0]?) h
  simpa using this
theorem take_at {P : Program} {md : Region.Mode} {l tl : List Oper} {Q : Exit → Act → World → Prop} {S : World → Prop} (i : Nat) {oi : Oper} {v : Value} {fuel : Nat} {listed : Array Bool} {a : Act} {w : World} (hl : l.drop i = oi :: tl)
    (hs : Region.noSelect l.toArray = true) (hf : Region.free md l.toArray listed i = true) (hr : (Region.ready md l.toArray listed).contains i = true)
    (hQ : ∀ c a w, Q (.panic c) (a.put oi.dst v) w → Q (.panic c) a w) (hy : YieldsIf P l.toArray S oi v a) (hS : S w)
    (h : wpAnyH P md l.toArray Q S fuel (listed.setIfInBounds i true) (a.put oi.dst v) w) : wpAnyH P md l.toArray Q S (fuel + 1) listed a w :=
  wpAnyH_take (i := i) (oi := oi) (getElem?_of_drop hl) hs hf hr hQ hy hS h
theorem ready_at {P : Program} {md : Region.Mode} {l tl : List Oper} {Q : Exit → Act → World → Prop} {S : World → Prop} (i : Nat) {oi : Oper} {fuel : Nat} {listed : Array Bool} {a : Act} {w : World} (hl : l.drop i = oi :: tl)
    (hr : Region.ready md l.toArray listed = [i])
    (h : ∀ K' : Act → World → Prop, Shut (∀ a w, S w → (S w → wpAnyH P md l.toArray Q S fuel (listed.setIfInBounds i true) a w) → K' a w) → if Region.wanted oi (yielded l.toArray a.tmps) = true then Oper.wp P oi a w K' Q else K' (a.put oi.dst undef) w) :
    wpAnyH P md l.toArray Q S (fuel + 1) listed a w :=
  wpAnyH_ready hr (by simp) (AllReadyH.cons (getElem?_of_drop hl) h AllReadyH.nil)
end Go.Proofs.YtahjofjblhpndaaDoor

namespace Go.Proofs.YtahjofjblhpndaaDoor
set_option linter.unusedVariables false
open Go.RowKit Go.Lib

/-- a world in which all that lies below block B of w is as it was -/
structure Fut (B : Nat) (w : World) where
  W : World
  le : Below B w W
instance (B : Nat) (w : World) : Inhabited (Fut B w) := ⟨⟨w, Below.refl _ _⟩⟩

theorem wp_region_quiet_fut {P : Program} (B : Nat) {id : Nat} {Q : Exit → Act → World → Prop} {a : Act} {w : World} {l : List Oper} (hm : P.follows .mixedOrders = true) (hB : Region.lexB .any l.toArray = true)
    (h : wpQuiet P l.toArray (fun w' => ∃ U : Fut B w, w' = U.W) (fun a' => ∀ w', (∃ U : Fut B w, w' = U.W) → Q .normal a' w') l a) : (Code.region id l.toArray true).wp P Q a w :=
  wp_region_quiet (C := fun w' => ∃ U : Fut B w, w' = U.W) hm hB ⟨⟨w.drew, (Below.refl _ _).drew⟩, rfl⟩ (by simpa using h)

theorem Calls.fut {P : Program} {f : FuncId} {args : Array Value} {B : Nat} {w : World} {U : Fut B w} {v : Value} (hB : B ≤ w.heap.size)
    (h : Calls P f args U.W fun e w' => e = .returned v ∧ Below U.W.heap.size U.W w') : Calls P f args U.W fun e w'' => e = .returned v ∧ ∃ V : Fut B w, w'' = V.W :=
  h.mono fun _ _ ⟨he, hb⟩ => ⟨he, ⟨_, U.le.trans (hb.mono (Nat.le_trans hB U.le.size))⟩, rfl⟩
theorem Calls.fut_same {P : Program} {f : FuncId} {args : Array Value} {B : Nat} {w : World} {U : Fut B w} {v : Value}
    (h : Calls P f args U.W fun e w' => e = .returned v ∧ U.W = w') : Calls P f args U.W fun e w'' => e = .returned v ∧ ∃ V : Fut B w, w'' = V.W :=
  h.mono fun _ _ ⟨he, hb⟩ => ⟨he, U, hb.symm⟩
theorem Calls.fut_drew {P : Program} {f : FuncId} {args : Array Value} {B : Nat} {w : World} {U : Fut B w} {v : Value}
    (h : Calls P f args U.W fun e w' => e = .returned v ∧ ∃ q, w' = U.W.drewN q) : Calls P f args U.W fun e w'' => e = .returned v ∧ ∃ V : Fut B w, w'' = V.W :=
  h.mono fun _ _ ⟨he, q, hq⟩ => ⟨he, ⟨_, below_drewN U.le q⟩, hq⟩
/-- a load of a row at one operation that is carried out, guarded or not -/
theorem qload {P : Program} {o : Oper} {a : Act} {C : World → Prop} {K : Act → Prop} (ty : TypeId) (x : Operand) (ho : o.op = .load ty x) (q : Value) (hx : a.eval x = q) (v : Value)
    (hr : ∀ w, C w → (Instr.loadAt ty q).run P w = .ok v w) (hk : K (a.put o.dst v)) : o.quiet P a C K := by
  refine ⟨v, fun w hw => ?_, hk⟩
  unfold Oper.quietAt
  simp [execOp, ho, hx, hr w hw, Result.andThen, Oper.quietUpon]
theorem qwant {P : Program} {ops : Array Oper} {C : World → Prop} {Q : Act → Prop} {a : Act} {o : Oper} {rest : List Oper} (hg : Region.wanted o (yielded ops a.tmps) = true) (h : ∀ K : Act → Prop, (∀ a, wpQuiet P ops C Q rest a → K a) → o.quiet P a C K) : wpQuiet P ops C Q (o :: rest) a :=
  wpQuiet_step fun K hK => by rw [if_pos hg]; exact h K hK
/-- a load of a row whose run is known, in a plain region -/
theorem wp_ld {P : Program} {o : Oper} {a : Act} {w : World} {K : Act → World → Prop} {Q : Exit → Act → World → Prop} (ty : TypeId) (x : Operand) (ho : o.op = .load ty x) (q : Value) (hx : a.eval x = q) (v : Value)
    (hr : (Instr.loadAt ty q).run P w = .ok v w) (h : K (a.put o.dst v) w) : o.wp P a w K Q := by
  unfold Oper.wp execOp
  simp only [ho, hx, Sem.run_bind, hr, Result.andThen_ok, Sem.run_pure]
  exact h
theorem wpList_ld {P : Program} {ops : Array Oper} {rest : List Oper} {o : Oper} {a : Act} {w : World} {Q : Exit → Act → World → Prop} (hgd : o.guard = none) (ty : TypeId) (x : Operand) (ho : o.op = .load ty x) (q : Value) (hx : a.eval x = q) (v : Value)
    (hr : (Instr.loadAt ty q).run P w = .ok v w) (h : wpList P ops Q rest (a.put o.dst v) w) : wpList P ops Q (o :: rest) a w :=
  wpList_plain hgd fun _ hK => wp_ld ty x ho q hx v hr (hK _ _ h)
theorem Ob.keepg {w w' : World} {B : Nat} {e : TypeId} {v : Value} {zs : List Int} (h : Ob w B e v zs) (hk : ∀ g, B ≤ g → g < w.heap.size → w'.heap[g]? = w.heap[g]?) : Ob w' B e v zs := by
  obtain ⟨hb, hl, h2⟩ := h
  refine ⟨hb, hl, ?_⟩
  rcases h2 with h2 | ⟨g, cap, cur, hv, hB, hg, r⟩
  · exact Or.inl h2
  · exact Or.inr ⟨g, cap, cur, hv, hB, (hk g hB (Array.getElem?_eq_some_iff.1 hg).1).trans hg, r⟩
end Go.Proofs.YtahjofjblhpndaaDoor
