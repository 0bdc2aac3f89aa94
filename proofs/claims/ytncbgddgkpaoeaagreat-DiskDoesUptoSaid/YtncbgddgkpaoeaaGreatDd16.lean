/- Layer 11, the program: a map of names; change -/
import Derived.Test.YtncbgddgkpaoeaaGreatDd13
import Derived.Maps.OwnSet
import Derived.Maps.RangeWalk
import Derived.Maps.AppendAt
import Derived.Sort.KeysCollected
set_option linter.unusedSimpArgs false
set_option linter.unusedVariables false
namespace Go.Proofs.YtncbgddgkpaoeaaGreat
set_option linter.unusedVariables false
open Go.RowKit Go.Lib Go.Maps

abbrev TM : TypeId := 127
abbrev TK : TypeId := 9
abbrev TE : TypeId := 3
theorem lawK : Keyed Tryz.prog TK := string_keyed Tryz.underlying9
theorem undM : Tryz.prog.underlying TM = some (.map TK TE) := Tryz.underlying127
theorem undE : Tryz.prog.underlying TE = some (.int .i64) := Tryz.underlying3
theorem zeroE (w : World) : (zeroValue TE).run Tryz.prog w = .ok (.int .i64 0) w := Tryz.zeroValue3 w
def keyL (s : ByteArray) : Lit := .string s.data.toList
theorem keyL_of {s : ByteArray} (h : s.size ≤ 1048576) : keyOf Tryz.prog TK (.string s) = some (keyL s) := Go.WideMaps.keyOf_string_mk Tryz.underlying9 (by unfold maxLen; omega)
theorem keyL_ne {s t : ByteArray} (h : s ≠ t) : keyL s ≠ keyL t := fun e => h (ByteArray.ext (Array.toList_inj.1 (by simpa [keyL] using e)))
theorem keyL_is {s : ByteArray} (h : s.size ≤ 1048576) : WideAt.IsKeyLit (keyL s) := lawK.key (keyL_of h)
theorem wfI64 {i : Int} (h : InI i) : (Lit.int .i64 i).wf = true := by
  obtain ⟨h1, h2⟩ := h
  simp [Lit.wf, IntKind.min, IntKind.max, IntKind.signed, IntKind.bits]
  omega

/-- the datum of a map that is this function of the names -/
def Df (D : DataW Unit) (f : ByteArray → Option Int) : Prop := ∀ s, s.size ≤ maxLen → has D (keyL s) = (f s).isSome ∧ ∀ i, f s = some i → ∀ z, D.atKey (keyL s) z = .lit (.int .i64 i)
/-- block b is a map of at most n names that is this function -/
def Mf (w : World) (b n : Nat) (f : ByteArray → Option Int) : Prop := okF f ∧ ∃ D : DataW Unit, w.ownsMap Tryz.prog TK (plainElem Tryz.prog TE) b n D ∧ Df D f
theorem Mf.lt {w : World} {b n : Nat} {f : ByteArray → Option Int} (h : Mf w b n f) : b < w.heap.size := by
  obtain ⟨_, D, h, _⟩ := h
  exact h.lt
theorem Mf.mono {w : World} {b n m : Nat} {f : ByteArray → Option Int} (h : Mf w b n f) (hm : n ≤ m) : Mf w b m f := by
  obtain ⟨h0, D, h, hd⟩ := h
  exact ⟨h0, D, h.mono hm, hd⟩
theorem Mf.kept {w w' : World} {row : Option Nat} {b n : Nat} {f : ByteArray → Option Int} (h : Mf w b n f) (hg : w.grownBy w' row) (hne : some b ≠ row) : Mf w' b n f := by
  obtain ⟨h0, D, h, hd⟩ := h
  exact ⟨h0, D, h.kept hg hne, hd⟩
theorem Mf.alloc {w : World} {b n : Nat} {f : ByteArray → Option Int} (h : Mf w b n f) (o : Obj) : Mf (w.alloc o) b n f := h.kept (World.grownBy_alloc w o none) (by simp)
theorem Mf.no {w : World} {b n : Nat} {f : ByteArray → Option Int} (h : Mf w b n f) (o : Nat) (u : Value) : w.cell? ⟨b, o, none⟩ ≠ some u := by
  obtain ⟨_, D, ⟨es, clock, hb, _⟩, _⟩ := h
  intro hc
  simp [World.cell?, hb] at hc
theorem Mf.made (w : World) : Mf (w.alloc (.map #[] 0)) w.heap.size 0 (fun _ => none) :=
  ⟨fun s i h => (by cases h), .map [], World.ownsMap_made _ _ _ _, fun s hs => ⟨rfl, fun i h => (by cases h)⟩⟩

section
variable {w : World} {ops : Array Oper} {rest : List Oper} {o : Oper} {a : Act} {Q : Exit → Act → World → Prop}
/-- 'v, ok := m[s]' -/
theorem wpList_look (hg : o.guard = none) (m x : Operand) (hop : o.op = Op.lookup TM m x true) (b n : Nat) (f : ByteArray → Option Int) (s : ByteArray) (hm : a.eval m = .map (some b)) (h : Mf w b n f) (hx : a.eval x = .string s) (hs : s.size ≤ 1048576)
    (hK : wpList Tryz.prog ops Q rest (a.put o.dst (.tuple #[.int .i64 ((f s).getD 0), .bool (f s).isSome])) w) : wpList Tryz.prog ops Q (o :: rest) a w := by
  obtain ⟨h0, D, hown, hd⟩ := h
  obtain ⟨hh, hat⟩ := hd s (by unfold maxLen; omega)
  refine wpList_lookup_own_ok_int w hg m x TM hop TK TE .i64 lawK undM undE (zeroE _) b n D hm hown _ _ hx (keyL_of hs) fun c hc _ => ?_
  rw [hh]
  cases hf : f s with
  | none =>
    rw [hf] at hh
    rw [atKey_of_not_has hh] at hc
    simp only [DataW.lit.injEq, Lit.int.injEq, true_and] at hc
    rw [hf] at hK
    rw [← hc]; exact hK
  | some i =>
    rw [hat i hf] at hc
    simp only [DataW.lit.injEq, Lit.int.injEq, true_and] at hc
    rw [hf] at hK
    rw [← hc]; exact hK
/-- 'm[s] = i' -/
theorem wpList_put (hg : o.guard = none) (m x v : Operand) (hop : o.op = Op.mapUpdate TM m x v) (b n : Nat) (f : ByteArray → Option Int) (s : ByteArray) (i : Int) (hm : a.eval m = .map (some b)) (h : Mf w b n f) (hn : n ≤ 4194304) (hx : a.eval x = .string s) (hv : a.eval v = .int .i64 i) (hs : s.size ≤ 1048576) (hi : InI i)
    (hK : ∀ w', Mf w' b (n + 1) (fun t => if t = s then some i else f t) → w.grownBy w' (some b) → wpList Tryz.prog ops Q rest (a.put o.dst undef) w') : wpList Tryz.prog ops Q (o :: rest) a w := by
  obtain ⟨h0, D, hown, hd⟩ := h
  refine wpList_mapUpdate_own w hg m x v TM hop TK TE lawK undM _ b n D hm hown (by unfold maxLen; omega) _ _ _ hx hv (keyL_of hs) _ [] (plainElem_int undE (wfI64 hi)) fun w' ho hgr => ?_
  refine hK w' ⟨fun t j hj => ?_, _, ho, fun t ht => ?_⟩ hgr
  · dsimp only at hj
    split at hj
    · rename_i e
      simp only [Option.some.injEq] at hj
      subst e hj
      exact ⟨hs, hi⟩
    · exact h0 t j hj
  · dsimp only
    by_cases e : t = s
    · subst e
      rw [if_pos rfl]
      refine ⟨has_put_same hown.isMap (keyL_is hs) _, fun j hj z => ?_⟩
      simp only [Option.some.injEq] at hj
      subst hj
      exact atKey_put_same hown.isMap (keyL_is hs) _ z
    · rw [if_neg e, has_put_other (keyL_ne e)]
      exact ⟨(hd t ht).1, fun j hj z => by rw [atKey_put_other (keyL_ne e)]; exact (hd t ht).2 j hj z⟩
/-- 'delete(m, s)' -/
theorem wpList_del (hg : o.guard = none) (m x : Operand) (hop : o.op = Op.call { callee := Callee.builtin Builtin.delete, args := #[m, x], argTypes := #[TM, TK] }) (b n : Nat) (f : ByteArray → Option Int) (s : ByteArray) (hm : a.eval m = .map (some b)) (h : Mf w b n f) (hx : a.eval x = .string s) (hs : s.size ≤ 1048576)
    (hK : ∀ w', Mf w' b n (fun t => if t = s then none else f t) → w.grownBy w' (some b) → wpList Tryz.prog ops Q rest (a.put o.dst (.tuple #[])) w') : wpList Tryz.prog ops Q (o :: rest) a w := by
  obtain ⟨h0, D, hown, hd⟩ := h
  refine wpList_delete_own w hg m x TM TK hop TE lawK undM _ b n D hm hown _ _ hx (keyL_of hs) fun w' ho ht => ?_
  refine hK w' ⟨fun t j hj => ?_, _, ho, fun t ht => ?_⟩ ht.grown
  · dsimp only at hj
    split at hj
    · cases hj
    · exact h0 t j hj
  · dsimp only
    by_cases e : t = s
    · subst e
      rw [if_pos rfl]
      exact ⟨has_del_same, fun j hj => by cases hj⟩
    · rw [if_neg e, has_del_other (keyL_ne e)]
      exact ⟨(hd t ht).1, fun j hj z => by rw [atKey_del_other (keyL_ne e)]; exact (hd t ht).2 j hj z⟩
end

set_option maxRecDepth 100000 in
set_option maxHeartbeats 2000000 in
theorem change_any (b n : Nat) (f : ByteArray → Option Int) (c : Cg) (w : World) (h : Mf w b n f) (hn : n ≤ 4194303) (hc : c.ok) :
    Calls Tryz.prog 103 #[.map (some b), c.v] w fun e w' => e = .returned (.tuple #[]) ∧ Mf w' b (n + 1) (chgF f c) ∧ w.grownBy w' (some b) := by
  obtain ⟨ck, ca, cb, ci⟩ := c
  have hca : ca.size ≤ 1048576 := hc.2.1
  have hcb : cb.size ≤ 1048576 := hc.2.2.1
  have HCI : Hid (InI ci) := Lib.hid hc.2.2.2
  have HOK := Lib.hid h.1
  unfold Cg.v
  dsimp only
  obtain ⟨wA, hA⟩ : ∃ A, w.alloc (.cells #[.int .i64 ck, .string ca, .string cb, .int .i64 ci] 106) = A := ⟨_, rfl⟩
  obtain ⟨G, hG⟩ : ∃ G, w.heap.size = G := ⟨_, rfl⟩
  have HGA : Hid (w.grownBy wA (some b)) := Lib.hid (by rw [← hA]; exact World.grownBy_alloc _ _ _)
  have HM := Lib.hid (show Mf wA b n f by rw [← hA]; exact h.alloc _)
  have HC : Hid (Cgw wA G ⟨ck, ca, cb, ci⟩) := Lib.hid (by rw [← hA, ← hG]; exact heap_alloc_new _ _)
  have hbG : b ≠ G := by have := h.lt; omega
  have HK : Hid (∀ W, wA.grownBy W (some b) → W.cell? ⟨G, 0, none⟩ = some (.int .i64 ck) ∧ W.cell? ⟨G, 1, none⟩ = some (.string ca) ∧ W.cell? ⟨G, 2, none⟩ = some (.string cb) ∧ W.cell? ⟨G, 3, none⟩ = some (.int .i64 ci)) := Lib.hid fun W hW => by
    obtain ⟨c0, c1, c2, c3⟩ := HC.out.cells
    have hne : ∀ j, some (⟨G, j, none⟩ : Addr).block ≠ some b := fun j e => hbG (by simpa using e.symm)
    exact ⟨hW.cell c0 (hne 0), hW.cell c1 (hne 1), hW.cell c2 (hne 2), hW.cell c3 (hne 3)⟩
  obtain ⟨g0, g1, g2, g3⟩ := HC.out.cells
  obtain ⟨r, hr⟩ : ∃ r, f ca = r := ⟨_, rfl⟩
  have HR := Lib.hid hr
  clear h hc hbG hr
  by_cases h1 : ck = 1
  · have HE : Hid (chgF f ⟨ck, ca, cb, ci⟩ = fun t => if t = ca then some ci else f t) := Lib.hid (funext fun t => by unfold chgF; rw [if_pos h1])
    subst h1
    go_enter Tryz.func103, Tryz.ntmps103
    go_wp2_with (first
      | (at_lookup; refine wpList_look rfl _ _ rfl b n f ca rfl HM.out rfl hca ?_)
      | (at_mapUpdate; refine wpList_put rfl _ _ _ rfl b n f ca ci rfl HM.out (by omega) rfl rfl hca HCI.out ?_; intro w2 hm2 hg2; have HM2 := Lib.hid hm2; have HG2 := Lib.hid hg2; clear hm2 hg2))
    go_end0
    exact ⟨rfl, by rw [HE.out]; exact HM2.out, HGA.out.trans HG2.out⟩
  have k1 : (ck == 1) = false := by simpa using h1
  cases r with
  | none =>
    have HE : Hid (chgF f ⟨ck, ca, cb, ci⟩ = f) := Lib.hid (funext fun t => by unfold chgF; rw [if_neg h1]; dsimp only; rw [HR.out])
    go_enter Tryz.func103, Tryz.ntmps103
    go_wp2_with (at_lookup; refine wpList_look rfl _ _ rfl b n f ca rfl HM.out rfl hca ?_; rw [HR.out]; simp only [Option.getD_none, Option.isSome_none])
    refine bodyPost_ret (results_none rfl _ _ _) rfl ?_
    exact ⟨rfl, by rw [HE.out]; exact HM.out.mono (Nat.le_succ _), HGA.out⟩
  | some i =>
    have HI := Lib.hid (HOK.out ca i HR.out).2
    by_cases h2 : ck = 2
    · have HE : Hid (chgF f ⟨ck, ca, cb, ci⟩ = fun t => if t = cb then some i else if t = ca then none else f t) := Lib.hid (funext fun t => by unfold chgF; rw [if_neg h1]; dsimp only; rw [HR.out]; dsimp only; rw [if_pos h2])
      subst h2
      go_enter Tryz.func103, Tryz.ntmps103
      go_wp2_with (first
        | (at_lookup; refine wpList_look rfl _ _ rfl b n f ca rfl HM.out rfl hca ?_; rw [HR.out]; simp only [Option.getD_some, Option.isSome_some])
        | (at_delete; refine wpList_del rfl _ _ rfl b n f ca rfl HM.out rfl hca ?_; intro w2 hm2 hg2; have HM2 := Lib.hid hm2; have HG2 := Lib.hid hg2; have kk := HK.out _ hg2; clear hm2 hg2; clear g0 g1 g2 g3; obtain ⟨g0, g1, g2, g3⟩ := kk)
        | (at_mapUpdate; refine wpList_put rfl _ _ _ rfl b n _ cb i rfl HM2.out (by omega) rfl rfl hcb HI.out ?_; intro w3 hm3 hg3; have HM3 := Lib.hid hm3; have HG3 := Lib.hid hg3; clear hm3 hg3))
      go_end0
      exact ⟨rfl, by rw [HE.out]; exact HM3.out, (HGA.out.trans HG2.out).trans HG3.out⟩
    have k2 : (ck == 2) = false := by simpa using h2
    by_cases h3 : ck = 3
    · have HE : Hid (chgF f ⟨ck, ca, cb, ci⟩ = fun t => if t = ca then none else f t) := Lib.hid (funext fun t => by unfold chgF; rw [if_neg h1]; dsimp only; rw [HR.out]; dsimp only; rw [if_neg h2, if_pos h3])
      subst h3
      go_enter Tryz.func103, Tryz.ntmps103
      go_wp2_with (first
        | (at_lookup; refine wpList_look rfl _ _ rfl b n f ca rfl HM.out rfl hca ?_; rw [HR.out]; simp only [Option.getD_some, Option.isSome_some])
        | (at_delete; refine wpList_del rfl _ _ rfl b n f ca rfl HM.out rfl hca ?_; intro w2 hm2 hg2; have HM2 := Lib.hid hm2; have HG2 := Lib.hid hg2; clear hm2 hg2))
      go_end0
      exact ⟨rfl, by rw [HE.out]; exact HM2.out.mono (Nat.le_succ _), HGA.out.trans HG2.out⟩
    · have k3 : (ck == 3) = false := by simpa using h3
      have HE : Hid (chgF f ⟨ck, ca, cb, ci⟩ = f) := Lib.hid (funext fun t => by unfold chgF; rw [if_neg h1]; dsimp only; rw [HR.out]; dsimp only; rw [if_neg h2, if_neg h3])
      go_enter Tryz.func103, Tryz.ntmps103
      go_wp2_with (at_lookup; refine wpList_look rfl _ _ rfl b n f ca rfl HM.out rfl hca ?_; rw [HR.out]; simp only [Option.getD_some, Option.isSome_some])
      go_end0
      exact ⟨rfl, by rw [HE.out]; exact HM.out.mono (Nat.le_succ _), HGA.out⟩
end Go.Proofs.YtncbgddgkpaoeaaGreat
