/- Layer 12, the program: a map of files by their numbers; a disk in memory -/
import Derived.Test.YtncbgddgkpaoeaaGreatDd15
import Derived.Test.YtncbgddgkpaoeaaGreatDd16
set_option linter.unusedSimpArgs false
set_option linter.unusedVariables false
namespace Go.Proofs.YtncbgddgkpaoeaaGreat
set_option linter.unusedVariables false
open Go.RowKit Go.Lib Go.Maps

abbrev TD : TypeId := 60
abbrev TV : TypeId := 73
theorem lawI : Keyed Tryz.prog TE := int_keyed undE
theorem undD : Tryz.prog.underlying TD = some (.map TE TV) := Tryz.underlying60
/-- two slices, as a value -/
structure Sv where
  p : Option Addr
  n : Nat
  c : Nat
  q : Option Addr
  m : Nat
  d : Nat
def Sv.v (x : Sv) : Value := .agg #[.slice x.p x.n x.c, .slice x.q x.m x.d]
def RV (v : Value) : Option (DataW Value × List MemPlace) :=
  match v with
  | .agg cs => (match cs.toList with
    | [.slice _ _ _, .slice _ _ _] => some (.held v, [])
    | _ => none)
  | _ => none
theorem RV_sv (x : Sv) : RV x.v = some (.held x.v, []) := rfl
theorem RV_ni (x : Ni) : RV x.v = some (.held x.v, []) := rfl
theorem RV_inv {v : Value} {y : DataW Value × List MemPlace} (h : RV v = some y) : (∃ x : Sv, v = x.v) ∧ y = (.held v, []) := by
  unfold RV at h
  split at h
  · rename_i cs
    split at h
    · rename_i p n c q m d e
      refine ⟨⟨⟨p, n, c, q, m, d⟩, ?_⟩, (Option.some.inj h).symm⟩
      show Value.agg cs = _
      congr 1
      exact Array.toList_inj.1 e
    · cases h
  · cases h
theorem zeroV (w : World) : (zeroValue TV).run Tryz.prog w = .ok ni0.v w := by kernel_rfl
def keyI (i : Int) : Lit := .int .i64 i
theorem keyI_of {i : Int} (h : InI i) : keyOf Tryz.prog TE (.int .i64 i) = some (keyI i) := keyOf_int_mk undE (wfI64 h)
theorem keyI_ne {i j : Int} (h : i ≠ j) : keyI i ≠ keyI j := fun e => h (by simpa [keyI] using e)
theorem keyI_is {i : Int} (h : InI i) : WideAt.IsKeyLit (keyI i) := lawI.key (keyI_of h)

/-- the datum of a map that is this function of the numbers -/
def Dg (D : DataW Value) (g : Int → Option Ni) : Prop := ∀ i, InI i → has D (keyI i) = (g i).isSome ∧ ∀ y, g i = some y → ∀ z, D.atKey (keyI i) z = .held y.v
/-- block M is a map of at most n files that is this function -/
def Mi (w : World) (M n : Nat) (g : Int → Option Ni) : Prop := (∀ i y, g i = some y → InI i) ∧ ∃ D : DataW Value, w.ownsMap Tryz.prog TE RV M n D ∧ Dg D g
theorem Mi.lt {w : World} {M n : Nat} {g : Int → Option Ni} (h : Mi w M n g) : M < w.heap.size := by
  obtain ⟨_, D, h, _⟩ := h
  exact h.lt
theorem Mi.mono {w : World} {M n m : Nat} {g : Int → Option Ni} (h : Mi w M n g) (hm : n ≤ m) : Mi w M m g := by
  obtain ⟨h0, D, h, hd⟩ := h
  exact ⟨h0, D, h.mono hm, hd⟩
theorem Mi.same {w w' : World} {M n : Nat} {g : Int → Option Ni} (h : Mi w M n g) (hb : w'.heap[M]? = w.heap[M]?) : Mi w' M n g := by
  obtain ⟨h0, D, ⟨es, clock, hm, r⟩, hd⟩ := h
  exact ⟨h0, D, ⟨es, clock, hb.trans hm, r⟩, hd⟩
theorem Mi.kept {w w' : World} {row : Option Nat} {M n : Nat} {g : Int → Option Ni} (h : Mi w M n g) (hg : w.grownBy w' row) (hne : some M ≠ row) : Mi w' M n g := h.same (hg.block M h.lt hne)
theorem Mi.later {w w' : World} {M n : Nat} {g : Int → Option Ni} (h : Mi w M n g) (hb : Below w.heap.size w w') : Mi w' M n g := h.same (hb.block M h.lt)
theorem Mi.no {w : World} {M n : Nat} {g : Int → Option Ni} (h : Mi w M n g) (o : Nat) (u : Value) : w.cell? ⟨M, o, none⟩ ≠ some u := by
  obtain ⟨_, D, ⟨es, clock, hb, _⟩, _⟩ := h
  intro hc
  simp [World.cell?, hb] at hc
theorem Mi.nix {w : World} {M n : Nat} {g : Int → Option Ni} (h : Mi w M n g) : Nix w M := Nix.of_map h.no
theorem Mi.made (w : World) : Mi (w.alloc (.map #[] 0)) w.heap.size 0 (fun _ => none) :=
  ⟨fun i y h => (by cases h), .map [], World.ownsMap_made _ _ _ _, fun s hs => ⟨rfl, fun i h => (by cases h)⟩⟩

/-! ### how many entries it has -/
theorem nodup_len : ∀ {l m : List Int}, l.Nodup → (∀ i ∈ l, i ∈ m) → l.length ≤ m.length
  | [], _, _, _ => Nat.zero_le _
  | i :: l, m, h, hm => by
    obtain ⟨h1, h2⟩ := List.nodup_cons.1 h
    have hi := hm i List.mem_cons_self
    have := nodup_len (m := m.erase i) h2 fun j hj => (List.mem_erase_of_ne (fun e => by subst e; exact h1 hj)).2 (hm j (List.mem_cons_of_mem _ hj))
    rw [List.length_erase_of_mem hi] at this
    have := List.length_pos_of_mem hi
    rw [List.length_cons]; omega
theorem irises_nodup {l : List Int} (h : irises l) : l.Nodup := List.Pairwise.imp (fun h e => by omega) h
def numL (k : Lit) : Int := match k with | .int _ i => i | _ => 0
theorem numL_key (i : Int) : numL (keyI i) = i := rfl
theorem size_is {w : World} {M n : Nat} {D : DataW Value} {g : Int → Option Ni} (h : w.ownsMap Tryz.prog TE RV M n D) (hd : Dg D g) (hg : ∀ i y, g i = some y → InI i) {K : List Kt} (hK : irises (idK K)) (hgK : ∀ i, (g i).map Ni.fi = getK K i) :
    size D = K.length ∧ w.ownsMap Tryz.prog TE RV M K.length D := by
  have h' := h
  have hin : ∀ i, i ∈ idK K ↔ (g i).isSome = true := fun i => by
    rw [← Option.isSome_map (f := Ni.fi), hgK i]
    constructor
    · intro hi; obtain ⟨x, hx⟩ := getK_some hi; rw [hx]; rfl
    · intro hi; obtain ⟨x, hx⟩ := Option.isSome_iff_exists.1 hi; exact getK_in hx
  obtain ⟨es, clock, hb, F, hs, rfl⟩ := h
  have hkey : ∀ p ∈ (es.toList.map (WideElems.rg Tryz.prog TE RV)).foldr DataW.insert [], ∃ i, p.1 = keyI i ∧ InI i := by
    intro p hp
    obtain ⟨x, hx, rfl⟩ := List.mem_map.1 (mem_sorted.1 hp)
    obtain ⟨y, hy⟩ := F.reads x hx
    rw [WideElems.rg_of hy]
    obtain ⟨i, _, h2, h3⟩ := Maps.keyOf_int_inv undE (WideElems.rd_key hy)
    exact ⟨i, h2, wfI h3⟩
  obtain ⟨es2, he, hnd, _⟩ := h'.entries lawI
  simp only [DataW.map.injEq] at he
  have hsz : size (DataW.map ((es.toList.map (WideElems.rg Tryz.prog TE RV)).foldr DataW.insert [])) = es.size := by simp [Maps.size, length_sorted]
  have hlen : ((es.toList.map (WideElems.rg Tryz.prog TE RV)).foldr DataW.insert []).length = es.size := by rw [length_sorted]; simp
  have hhas : ∀ i, InI i → (has (DataW.map ((es.toList.map (WideElems.rg Tryz.prog TE RV)).foldr DataW.insert [])) (keyI i) = true ↔ ∃ p ∈ (es.toList.map (WideElems.rg Tryz.prog TE RV)).foldr DataW.insert [], p.1 = keyI i) := fun i hi => by
    rw [has_eq, List.any_eq_true]
    constructor
    · rintro ⟨p, hp, hpk⟩; exact ⟨p, hp, WideAt.sameKey_eq hpk⟩
    · rintro ⟨p, hp, hpk⟩; exact ⟨p, hp, by rw [hpk]; exact WideAt.sameKey_self (keyI_is hi)⟩
  rw [← he] at hnd
  generalize hl : (es.toList.map (WideElems.rg Tryz.prog TE RV)).foldr DataW.insert [] = l at *
  have hndn : (l.map fun p => numL p.1).Nodup := by
    refine List.pairwise_map.2 (List.Pairwise.imp_of_mem (fun {a b} ha hb hne e => hne ?_) hnd)
    obtain ⟨i, hi, _⟩ := hkey a ha
    obtain ⟨j, hj, _⟩ := hkey b hb
    rw [hi, hj, numL_key, numL_key] at e
    rw [hi, hj, e]
  have h1 : (l.map fun p => numL p.1).length ≤ (idK K).length := nodup_len hndn fun i hi => by
    obtain ⟨p, hp, rfl⟩ := List.mem_map.1 hi
    obtain ⟨j, hj, hji⟩ := hkey p hp
    rw [hj, numL_key, hin, ← (hd j hji).1, hhas j hji]
    exact ⟨p, hp, hj⟩
  have h2 : (idK K).length ≤ (l.map fun p => numL p.1).length := nodup_len (irises_nodup hK) fun i hi => by
    have h3 := (hin i).1 hi
    obtain ⟨y, hy⟩ := Option.isSome_iff_exists.1 h3
    have hji := hg i y hy
    rw [← (hd i hji).1, hhas i hji] at h3
    obtain ⟨p, hp, e⟩ := h3
    exact List.mem_map.2 ⟨p, hp, by rw [e]; exact numL_key i⟩
  have h3 : (idK K).length = K.length := by simp [idK]
  have h4 : es.size = K.length := by rw [List.length_map] at h1 h2; omega
  refine ⟨by rw [hsz]; exact h4, ⟨es, clock, hb, F, by omega, ?_⟩⟩
  rw [hl]
theorem Mi.exact {w : World} {M n : Nat} {g : Int → Option Ni} (h : Mi w M n g) {K : List Kt} (hK : irises (idK K)) (hgK : ∀ i, (g i).map Ni.fi = getK K i) : Mi w M K.length g := by
  obtain ⟨h0, D, hown, hd⟩ := h
  exact ⟨h0, D, (size_is hown hd h0 hK hgK).2, hd⟩

section
variable {w : World} {ops : Array Oper} {rest : List Oper} {o : Oper} {a : Act} {Q : Exit → Act → World → Prop}
set_option maxRecDepth 100000 in
theorem look_run {M n : Nat} {g : Int → Option Ni} (h : Mi w M n g) (i : Int) (hi : InI i) : (Instr.lookup TD (.map (some M)) (.int .i64 i) false).run Tryz.prog w = .ok ((g i).getD ni0).v w := by
  obtain ⟨h0, D, hown, hd⟩ := h
  obtain ⟨v, ps, hrun, hv⟩ := hown.lookup lawI undD (zeroV w) (RV_ni ni0) (keyI_of hi)
  obtain ⟨hh, hat⟩ := hd i hi
  obtain ⟨_, he⟩ := RV_inv hv
  have he1 := congrArg Prod.fst he
  rw [hrun]
  congr 1
  cases hg : g i with
  | none =>
    rw [hg] at hh
    rw [atKey_of_not_has hh] at he1
    simpa using he1.symm
  | some y =>
    rw [hat y hg] at he1
    simpa using he1.symm
set_option maxRecDepth 100000 in
/-- 'm[i]' -/
theorem wpList_lookI (hg : o.guard = none) (m x : Operand) (hop : o.op = Op.lookup TD m x false) (M n : Nat) (g : Int → Option Ni) (i : Int) (hm : a.eval m = .map (some M)) (h : Mi w M n g) (hx : a.eval x = .int .i64 i) (hi : InI i)
    (hK : wpList Tryz.prog ops Q rest (a.put o.dst ((g i).getD ni0).v) w) : wpList Tryz.prog ops Q (o :: rest) a w := by
  refine wpList_plain hg fun K' hK' => ?_
  unfold Oper.wp
  simp [execOp, hop, hm, hx, look_run h i hi, Result.andThen]
  exact hK' _ _ hK
set_option maxRecDepth 100000 in
/-- 'm[i] = x' -/
theorem wpList_putI (hg : o.guard = none) (m x v : Operand) (hop : o.op = Op.mapUpdate TD m x v) (M n : Nat) (g : Int → Option Ni) (i : Int) (y : Ni) (hm : a.eval m = .map (some M)) (h : Mi w M n g) (hn : n ≤ 4194304) (hx : a.eval x = .int .i64 i) (hv : a.eval v = y.v) (hi : InI i)
    (hK : ∀ w', Mi w' M (n + 1) (fun j => if j = i then some y else g j) → w.grownBy w' (some M) → wpList Tryz.prog ops Q rest (a.put o.dst undef) w') : wpList Tryz.prog ops Q (o :: rest) a w := by
  obtain ⟨h0, D, hown, hd⟩ := h
  refine wpList_mapUpdate_own w hg m x v TD hop TE TV lawI undD _ M n D hm hown (by unfold maxLen; omega) _ _ _ hx hv (keyI_of hi) _ [] (RV_ni y) fun w' ho hgr => ?_
  refine hK w' ⟨fun t j hj => ?_, _, ho, fun t ht => ?_⟩ hgr
  · dsimp only at hj
    split at hj
    · rename_i e
      subst e
      exact hi
    · exact h0 t j hj
  · dsimp only
    by_cases e : t = i
    · subst e
      rw [if_pos rfl]
      refine ⟨has_put_same hown.isMap (keyI_is hi) _, fun j hj z => ?_⟩
      simp only [Option.some.injEq] at hj
      subst hj
      exact atKey_put_same hown.isMap (keyI_is hi) _ z
    · rw [if_neg e, has_put_other (keyI_ne e)]
      exact ⟨(hd t ht).1, fun j hj z => by rw [atKey_put_other (keyI_ne e)]; exact (hd t ht).2 j hj z⟩
set_option maxRecDepth 100000 in
/-- 'len(m)' -/
theorem wpList_lenI (hg : o.guard = none) (m : Operand) (hop : o.op = Op.call { callee := Callee.builtin Builtin.len, args := #[m], argTypes := #[TD] }) (M n : Nat) (g : Int → Option Ni) (K : List Kt) (hm : a.eval m = .map (some M)) (h : Mi w M n g) (hK : irises (idK K)) (hgK : ∀ i, (g i).map Ni.fi = getK K i)
    (hk : wpList Tryz.prog ops Q rest (a.put o.dst (.int .i64 (K.length : Int))) w) : wpList Tryz.prog ops Q (o :: rest) a w := by
  obtain ⟨h0, D, hown, hd⟩ := h
  refine wpList_len_own w hg m TD hop TE TV undD _ M n D hm hown ?_
  rw [(size_is hown hd h0 hK hgK).1]
  exact hk
end

/-! ### a disk in memory -/
def dcells (d : Dk) (x : Fo) (M : Nat) (fu : Int) : Array Value := #[.int .i64 d.lb, .int .i64 d.lf, .slice x.p x.n x.c, .slice x.q x.m x.d, .map (some M), .int .i64 d.last, .int .i64 fu, .bool d.off, .int .i64 d.calls]
def Nf (w : World) (g : Int → Option Ni) : Prop := ∀ i y, g i = some y → Ni.fit w y
/-- block D is a disk, its folder x, its files g in block M -/
structure Dx (w : World) (D M : Nat) (d : Dk) (x : Fo) (fu : Int) (g : Int → Option Ni) : Prop where
  b : w.heap[D]? = some (.cells (dcells d x M fu) 66 (0, 0))
  f : Fo.fit w x
  fd : x.fd = d.F
  m : Mi w M d.K.length g
  n : Nf w g
  k : ∀ i, (g i).map Ni.fi = getK d.K i
  u : normF fu = d.fuse
  ui : InI fu
def Dw (w : World) (D M : Nat) (d : Dk) : Prop := ∃ x fu g, Dx w D M d x fu g
theorem Nf.later {w w' : World} {g : Int → Option Ni} (h : Nf w g) (hb : Below w.heap.size w w') : Nf w' g := fun i y hy => (h i y hy).later hb
theorem Nf.kp {D M : Nat} {w w' : World} {g : Int → Option Ni} (h : Nf w g) (hk : Kp D M w w') (hD : Nix w D) (hM : Nix w M) : Nf w' g := fun i y hy => (h i y hy).kp hk hD hM
theorem Nf.fit {w : World} {g : Int → Option Ni} (h : Nf w g) (i : Int) : Ni.fit w ((g i).getD ni0) := by
  cases hg : g i with
  | none => exact ni0_fit w
  | some y => exact h i y hg
theorem fi_at {g : Int → Option Ni} {K : List Kt} (hgK : ∀ i, (g i).map Ni.fi = getK K i) (i : Int) : ((g i).getD ni0).fi = atK K i := by
  unfold atK
  rw [← hgK i]
  cases g i <;> rfl
theorem Dx.lt {w : World} {D M : Nat} {d : Dk} {x : Fo} {fu : Int} {g : Int → Option Ni} (h : Dx w D M d x fu g) : D < w.heap.size := (Array.getElem?_eq_some_iff.1 h.b).1
theorem Dx.ne {w : World} {D M : Nat} {d : Dk} {x : Fo} {fu : Int} {g : Int → Option Ni} (h : Dx w D M d x fu g) : D ≠ M := fun e => by
  subst e
  have h0 : w.cell? ⟨D, 0, none⟩ = some (.int .i64 d.lb) := by rw [cell_of_row _ _ _ _ _ _ h.b]; rfl
  exact h.m.no 0 _ h0
theorem nix_cells {w : World} {D M : Nat} {d : Dk} {x : Fo} {fu : Int} (h : w.heap[D]? = some (.cells (dcells d x M fu) 66 (0, 0))) : Nix w D := by
  have hc : ∀ j, w.cell? ⟨D, j, none⟩ = (dcells d x M fu)[j]? := fun j => cell_of_row _ _ _ _ _ _ h
  refine ⟨fun j z => ?_, fun j s => ?_, fun j b p n c => ?_⟩
  · rw [hc]
    match j with
    | 0 | 1 | 2 | 3 | 4 | 5 | 6 | 7 | 8 => simp [dcells]
    | j + 9 => simp [dcells]
  · rw [hc]
    match j with
    | 0 | 1 | 2 | 3 | 4 | 5 | 6 | 7 | 8 => simp [dcells]
    | j + 9 => simp [dcells]
  · rw [hc, hc]
    match j with
    | 0 | 1 | 2 | 3 | 4 | 5 | 6 | 7 | 8 => simp [dcells]
    | j + 9 => simp [dcells]
theorem Dx.nix {w : World} {D M : Nat} {d : Dk} {x : Fo} {fu : Int} {g : Int → Option Ni} (h : Dx w D M d x fu g) : Nix w D ∧ Nix w M := ⟨nix_cells h.b, h.m.nix⟩
theorem Dx.later {w w' : World} {D M : Nat} {d : Dk} {x : Fo} {fu : Int} {g : Int → Option Ni} (h : Dx w D M d x fu g) (hb : Below w.heap.size w w') : Dx w' D M d x fu g :=
  { h with b := by rw [hb.block D h.lt]; exact h.b, f := h.f.later hb, m := h.m.later hb, n := h.n.later hb }
theorem Dw.later {w w' : World} {D M : Nat} {d : Dk} (h : Dw w D M d) (hb : Below w.heap.size w w') : Dw w' D M d := by
  obtain ⟨x, fu, g, h⟩ := h
  exact ⟨x, fu, g, h.later hb⟩
/-- the disk's own cells in a world in which something else has turned -/
theorem Dx.cells {w : World} {D M : Nat} {d : Dk} {x : Fo} {fu : Int} {g : Int → Option Ni} (h : Dx w D M d x fu g) :
    w.cell? ⟨D, 0, none⟩ = some (.int .i64 d.lb) ∧ w.cell? ⟨D, 1, none⟩ = some (.int .i64 d.lf) ∧ w.cell? ⟨D, 2, none⟩ = some (.slice x.p x.n x.c) ∧ w.cell? ⟨D, 3, none⟩ = some (.slice x.q x.m x.d) ∧ w.cell? ⟨D, 4, none⟩ = some (.map (some M)) ∧
    w.cell? ⟨D, 5, none⟩ = some (.int .i64 d.last) ∧ w.cell? ⟨D, 6, none⟩ = some (.int .i64 fu) ∧ w.cell? ⟨D, 7, none⟩ = some (.bool d.off) ∧ w.cell? ⟨D, 8, none⟩ = some (.int .i64 d.calls) := by
  have hc : ∀ j, w.cell? ⟨D, j, none⟩ = (dcells d x M fu)[j]? := fun j => cell_of_row _ _ _ _ _ _ h.b
  refine ⟨?_, ?_, ?_, ?_, ?_, ?_, ?_, ?_, ?_⟩ <;> (rw [hc]; rfl)
theorem Dx.frozen {w : World} {D M : Nat} {d : Dk} {x : Fo} {fu : Int} {g : Int → Option Ni} (h : Dx w D M d x fu g) (j : Nat) : w.frozen? ⟨D, j, none⟩ = false := frozen_of_row w D j _ _ h.b
/-- a disk behind what has turned D and M alone -/
theorem Dx.turn {w w' : World} {D M : Nat} {d d' : Dk} {x x' : Fo} {fu fu' : Int} {g g' : Int → Option Ni} (h : Dx w D M d x fu g) (hk : Kp D M w w')
    (hb : w'.heap[D]? = some (.cells (dcells d' x' M fu') 66 (0, 0))) (hx : Fo.fit w' x') (hfd : x'.fd = d'.F) {n : Nat} (hm : Mi w' M n g') (hn : Nf w' g') (hK : irises (idK d'.K)) (hgK : ∀ i, (g' i).map Ni.fi = getK d'.K i) (hu : normF fu' = d'.fuse) (hui : InI fu') : Dx w' D M d' x' fu' g' :=
  ⟨hb, hx, hfd, hm.exact hK hgK, hn, hgK, hu, hui⟩
end Go.Proofs.YtncbgddgkpaoeaaGreat
