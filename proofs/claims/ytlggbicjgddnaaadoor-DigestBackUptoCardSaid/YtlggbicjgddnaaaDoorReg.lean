/- Regions that draw their order: an operation that its guard passes over. -/
import Derived.Test.YtlggbicjgddnaaaDoorLib2
import Derived.Deep.RegionHeld3
import Derived.StillTail
import Derived.Deep.MidRow
import Derived.StillTactics
namespace Go.Proofs.YtlggbicjgddnaaaDoor
set_option linter.unusedVariables false
open Go.RowKit Go.Lib

/-- An operation that its guard passes over. -/
theorem wpStill_skip {P : Program} {ops : Array Oper} {w : World} {Q : Act → Prop} {a : Act} {o : Oper} {rest : List Oper} (hw : Region.wanted o (yielded ops a.tmps) = false) (h : wpStill P ops w Q rest (a.put o.dst undef)) : wpStill P ops w Q (o :: rest) a :=
  wpStill_step fun K hK => by rw [if_neg (by rw [hw]; exact Bool.false_ne_true)]; exact hK _ h

/-- 'append(s, x...)', s of the call's own, x any bytes: at one operation. -/
theorem wp_append_bytes {P : Program} {w : World} {o : Oper} {a : Act} {K : Act → World → Prop} {Q : Exit → Act → World → Prop} (s x : Operand) (t e : TypeId)
    (ho : o.op = .call { callee := .builtin .append, args := #[s, x], argTypes := #[t, t] }) (ht : P.underlying t = some (.slice e))
    (hinfo : (P.info? e).map (fun i => (i.zero, i.size, i.bytes)) = some (some (.int .u8 0), 1, 1))
    (B : Nat) (v : Value) (zs : List Int) (hs : a.eval s = v) (hob : Ob w B e v zs) (p : Option Addr) (m c : Nat) (ys : List Int) (hx : a.eval x = .slice p m c) (hbs : Bs w p m ys) (hpc : p = none → c = 0)
    (hbytes : zs.length + m ≤ 140737488355328) (hB : B ≤ w.heap.size)
    (h : ∀ v' w', Ob w' B e v' (zs ++ ys) → w.grownBy w' v.ownBlock → K (a.put o.dst v') w') : o.wp P a w K Q := by
  obtain ⟨i, hi, hzz⟩ := Option.map_eq_some_iff.1 hinfo
  simp only [Prod.mk.injEq] at hzz
  obtain ⟨hz, hsz, hb⟩ := hzz
  obtain ⟨hy1, hy2, hy3⟩ := hbs
  cases p with
  | none =>
    obtain rfl := hpc rfl
    have hm : m = 0 := by
      rcases hy3 with h0 | ⟨_, _, hh, _⟩
      · exact h0
      · cases hh
    subst hm
    obtain rfl : ys = [] := List.length_eq_zero_iff.1 hy1
    have hrun := run_append_owned_none (P := P) (w := w) B t o.type e i 1 ht hi v _ _ hob.2
    unfold Oper.wp
    simp [execOp, ho, resolve, invoke, builtin, hs, hx, hrun, Result.andThen]
    exact h _ _ (by rw [List.append_nil]; exact hob) ⟨rfl, rfl, rfl, Nat.le_refl _, fun _ _ _ => rfl⟩
  | some ad =>
    refine wp_append_own _ s x t ho B e i (.int .u8 0) 1 1 ht hi hz hsz hb rfl (by decide) v _ _ hs hob.2 ad m c (ys.map (Value.int .u8)) hx (by simpa using hy1) ?_ ?_ (by unfold maxLen; omega) (by omega) hB ?_
    · intro j u hu
      have hj : j < m := by
        rcases Nat.lt_or_ge j m with h | h
        · exact h
        · rw [List.getElem?_eq_none (by simpa [hy1] using h)] at hu; cases hu
      rcases hy3 with h0 | ⟨b, off, hp, hc⟩
      · omega
      · obtain rfl : ad = ⟨b, off, none⟩ := by simpa using hp
        rw [WideShapes.add_plain, hc j hj]
        rw [List.getElem?_map] at hu
        rw [List.getD_eq_getElem?_getD]
        rw [List.getElem?_eq_getElem (by omega)] at hu ⊢
        simpa using hu
    · intro u hu
      obtain ⟨z, _, rfl⟩ := List.mem_map.1 hu
      rfl
    · intro v' w' h1 h2 _
      refine h v' w' ⟨bytes_append hob.1 hy2, ?_⟩ h2
      simpa [hy1] using h1

/-- .. at a step of a region that draws its order (go_region_held3's third argument). -/
theorem step_append_bytes {P : Program} {w : World} {ops : Array Oper} {o : Oper} {a : Act} {K : Act → World → Prop} {Q : Exit → Act → World → Prop} {E : Prop} (hgd : o.guard = none) (s x : Operand) (t e : TypeId)
    (ho : o.op = .call { callee := .builtin .append, args := #[s, x], argTypes := #[t, t] }) (ht : P.underlying t = some (.slice e))
    (hinfo : (P.info? e).map (fun i => (i.zero, i.size, i.bytes)) = some (some (.int .u8 0), 1, 1))
    (B : Nat) (v : Value) (zs : List Int) (hs : a.eval s = v) (hob : Ob w B e v zs) (p : Option Addr) (m c : Nat) (ys : List Int) (hx : a.eval x = .slice p m c) (hbs : Bs w p m ys) (hpc : p = none → c = 0)
    (hbytes : zs.length + m ≤ 140737488355328) (hB : B ≤ w.heap.size)
    (h : ∀ v' w', Ob w' B e v' (zs ++ ys) → w.grownBy w' v.ownBlock → K (a.put o.dst v') w') : if Region.wanted o (yielded ops a.tmps) = true then Oper.wp P o a w K Q else E := by
  have hw : Region.wanted o (yielded ops a.tmps) = true := by simp [Region.wanted, hgd]
  rw [if_pos hw]
  exact wp_append_bytes s x t e ho ht hinfo B v zs hs hob p m c ys hx hbs hpc hbytes hB h

/-- An operation of a plain region, guarded or not, that is carried out. -/
theorem wpList_wanted {P : Program} {ops : Array Oper} {Q : Exit → Act → World → Prop} {a : Act} {w : World} {rest : List Oper} {o : Oper} (hw : Region.wanted o (yielded ops a.tmps) = true)
    (h : ∀ K : Act → World → Prop, (∀ a w, wpList P ops Q rest a w → K a w) → o.wp P a w K Q) : wpList P ops Q (o :: rest) a w := by
  unfold wpList
  rw [if_pos hw]
  exact Or.inl (h _ fun _ _ h => h)

/- A region that draws its order, by hand as far as two loads of whole arrays want it: begin, take what yields, go on by the kit's walk. -/
macro "held_begin " S:term:max h:term:max : tactic => `(tactic| refine wp_region_held_drew (S := $S) (by kernel_rfl) $h (fun hHeld => ?_))
open Lean Elab Tactic Meta in
elab "held_op " n:num : tactic => withMainContext do
  let t := (← instantiateMVars (← getMainTarget)).consumeMData
  let some oe := opAt t.getAppArgs[2]! n.getNat | throwError "held_op: the region is not written out"
  let o ← Term.exprToSyntax oe
  evalTactic (← `(tactic| refine wpAnyH_take (i := $n) (oi := $o) (v := ?_) rfl (by kernel_rfl) (by kernel_rfl) (by kernel_rfl) (fun _ _ _ h => h) (Or.inl ⟨by rfl, ?_⟩) (by assumption) ?_))
  let [_, hy, rest] ← getGoals | throwError "held_op: three goals expected"
  setGoals [hy]
  evalTactic (← `(tactic| (intro w hSw; (try dsimp only at hSw); go_simp)))
  unless (← getGoals).isEmpty do evalTactic (← `(tactic| with_reducible rfl))
  setGoals [rest]
  evalTactic (← `(tactic| try simp only [Act.put, List.setIfInBounds_toArray, List.set_cons_zero, List.set_cons_succ]))
open Lean Elab Tactic Meta in
elab "held_ld " n:num hS:term:max hU:term:max hI:term:max : tactic => withMainContext do
  let t := (← instantiateMVars (← getMainTarget)).consumeMData
  let some oe := opAt t.getAppArgs[2]! n.getNat | throwError "held_ld: the region is not written out"
  let o ← Term.exprToSyntax oe
  evalTactic (← `(tactic| refine wpAnyH_take (i := $n) (oi := $o) rfl (by kernel_rfl) (by kernel_rfl) (by kernel_rfl) (fun _ _ _ h => h) (yieldsIf_load_mid (by rfl) _ _ rfl _ _ rfl _ _ $hS $hU rfl $hI) (by assumption) ?_))
  evalTactic (← `(tactic| try simp only [Act.put, List.setIfInBounds_toArray, List.set_cons_zero, List.set_cons_succ]))
open Lean Elab Tactic Meta in
/-- take, as long as there is one, an operation that is no call and no load -/
partial def heldRun : TacticM Unit := withMainContext do
  let t := (← instantiateMVars (← getMainTarget)).consumeMData
  unless t.isAppOfArity ``wpAnyH 9 do throwError "held_run: the goal is no 'wpAnyH'"
  let a := t.getAppArgs
  let ready ← kernelNats (mkApp3 (mkConst ``Region.ready) a[1]! a[2]! a[6]!)
  if ready.isEmpty then
    evalTactic (← `(tactic| refine wpAnyH_done (by kernel_rfl) ?_ _))
    return
  for i in ready do
    let h := opHead a[2]! i
    unless h == some ``Op.call || h == some ``Op.load do
      let n := Syntax.mkNumLit (toString i)
      let s ← saveState
      let ok ← try
        evalTactic (← `(tactic| held_op $n))
        pure true
      catch _ =>
        s.restore
        pure false
      if ok then
        heldRun
        return
open Lean Elab Tactic Meta in
elab "held_run" : tactic => heldRun
open Lean Elab Tactic Meta in
elab "held_call " n:num ppSpace "(" keep:tactic ")" ppSpace "(" tac:tacticSeq ")" : tactic => withMainContext do
  let t := (← instantiateMVars (← getMainTarget)).consumeMData
  let some oe := opAt t.getAppArgs[2]! n.getNat | throwError "held_call: the region is not written out"
  let o ← Term.exprToSyntax oe
  evalTactic (← `(tactic| refine wpAnyH_ready (rs := [$n]) (by kernel_rfl) (by simp) ?_))
  evalTactic (← `(tactic| refine AllReadyH.cons (o := $o) rfl (fun K hK => ?_) AllReadyH.nil))
  evalTactic (← `(tactic| go_simp))
  evalTactic (← `(tactic| ($tac:tacticSeq)))
  unless (← instantiateMVars (← getMainTarget)).consumeMData.getAppFn.isFVar do evalTactic (← `(tactic| go_wp2_with fail))
  evalTactic (← `(tactic| refine hK.out _ _ ?_ (fun hHeld => ?_)))
  let [hS, rest] ← getGoals | throwError "held_call: two goals expected"
  setGoals [hS]
  evalTactic (← `(tactic| try dsimp only))
  unless (← getUnsolvedGoals).isEmpty do evalTactic keep
  setGoals [rest]
  evalTactic (← `(tactic| clear hK K))
  evalTactic (← `(tactic| try simp only [Act.put, List.setIfInBounds_toArray, List.set_cons_zero, List.set_cons_succ]))
open Lean Elab Tactic in
elab "held_on " "(" keep:tactic ")" ppSpace "(" tac:tactic ")" : tactic => regionWalkH3 keep tac false
end Go.Proofs.YtlggbicjgddnaaaDoor
