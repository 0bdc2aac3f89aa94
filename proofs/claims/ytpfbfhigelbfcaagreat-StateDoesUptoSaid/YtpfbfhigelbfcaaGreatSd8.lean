/- Maps of numbers to numbers, in memory -/
import Derived.Test.YtpfbfhigelbfcaaGreatSd7
import Derived.Maps.OwnSet
import Derived.Maps.OwnOps
import Derived.Maps.RangeWalk
import Derived.Sort.KeysCollected
import Derived.Lib.SlKeysI
set_option linter.unusedSimpArgs false
set_option linter.unusedVariables false
namespace Go.Proofs.YtpfbfhigelbfcaaGreat
open Go.RowKit Go.Lib Go.Maps
abbrev TJ : TypeId := 93
abbrev TJi : TypeId := 3
theorem undJi : Tryz.prog.underlying TJi = some (.int .i64) := Tryz.underlying3
theorem lawJ : Keyed Tryz.prog TJi := int_keyed undJi
theorem undJ : Tryz.prog.underlying TJ = some (.map TJi TJi) := Tryz.underlying93
theorem zeroJ (w : World) : (zeroValue TJi).run Tryz.prog w = .ok (.int .i64 0) w := Tryz.zeroValue3 w
noncomputable abbrev RJ : Value → Option (DataW Unit × List MemPlace) := plainElem Tryz.prog TJi
def keyJ (i : Int) : Lit := .int .i64 i
theorem wfJ {i : Int} (h : Rgi i) : (Lit.int .i64 i).wf = true := by
 obtain ⟨h1, h2⟩ := h
 simp [Lit.wf, IntKind.min, IntKind.max, IntKind.signed, IntKind.bits]
 omega
theorem rgi_wf {i : Int} (h : (Lit.int .i64 i).wf = true) : Rgi i := by
 simp [Lit.wf, IntKind.min, IntKind.max, IntKind.signed, IntKind.bits] at h
 exact ⟨by omega, by omega⟩
theorem keyJ_of {i : Int} (h : Rgi i) : keyOf Tryz.prog TJi (.int .i64 i) = some (keyJ i) := keyOf_int_mk undJi (wfJ h)
theorem keyJ_ne {i j : Int} (h : i ≠ j) : keyJ i ≠ keyJ j := fun e => h (by simpa [keyJ] using e)
theorem keyJ_is {i : Int} (h : Rgi i) : WideAt.IsKeyLit (keyJ i) := lawJ.key (keyJ_of h)
/-- the datum of a map that is this function of the numbers -/
def Dj (D : DataW Unit) (f : Int → Option Int) : Prop := ∀ s, Rgi s → has D (keyJ s) = (f s).isSome ∧ ∀ i, f s = some i → ∀ z, D.atKey (keyJ s) z = .lit (.int .i64 i)
def okJ (f : Int → Option Int) : Prop := ∀ s i, f s = some i → Rgi s ∧ Rgi i
/-- block b is a map of at most n numbers that is this function -/
def Mj (w : World) (b n : Nat) (f : Int → Option Int) : Prop := okJ f ∧ ∃ D : DataW Unit, w.ownsMap Tryz.prog TJi RJ b n D ∧ Dj D f
theorem Mj.lt {w : World} {b n : Nat} {f : Int → Option Int} (h : Mj w b n f) : b < w.heap.size := by
 obtain ⟨_, D, h, _⟩ := h
 exact h.lt
theorem Mj.mono {w : World} {b n m : Nat} {f : Int → Option Int} (h : Mj w b n f) (hm : n ≤ m) : Mj w b m f := by
 obtain ⟨h0, D, h, hd⟩ := h
 exact ⟨h0, D, h.mono hm, hd⟩
theorem Mj.same {w w' : World} {b n : Nat} {f : Int → Option Int} (h : Mj w b n f) (hb : w'.heap[b]? = w.heap[b]?) : Mj w' b n f := by
 obtain ⟨h0, D, ⟨es, clock, hm, r⟩, hd⟩ := h
 exact ⟨h0, D, ⟨es, clock, hb.trans hm, r⟩, hd⟩
theorem Mj.kept {w w' : World} {row : Option Nat} {b n : Nat} {f : Int → Option Int} (h : Mj w b n f) (hg : w.grownBy w' row) (hne : some b ≠ row) : Mj w' b n f := h.same (hg.block b h.lt hne)
theorem Mj.later {w w' : World} {b n : Nat} {f : Int → Option Int} (h : Mj w b n f) (hb : Below w.heap.size w w') : Mj w' b n f := h.same (hb.block b h.lt)
theorem Mj.no {w : World} {b n : Nat} {f : Int → Option Int} (h : Mj w b n f) (o : Nat) (u : Value) : w.cell? ⟨b, o, none⟩ ≠ some u := by
 obtain ⟨_, D, ⟨es, clock, hb, _⟩, _⟩ := h
 intro hc
 simp [World.cell?, hb] at hc
theorem Mj.noCells {w : World} {b n : Nat} {f : Int → Option Int} (h : Mj w b n f) {cs : Array Value} {t : TypeId} {k : Nat × Nat} : w.heap[b]? ≠ some (.cells cs t k) := by
 obtain ⟨_, D, ⟨es, clock, hb, _⟩, _⟩ := h
 rw [hb]
 intro e
 cases e
theorem Mj.made (w : World) : Mj (w.alloc (.map #[] 0)) w.heap.size 0 (fun _ => none) :=
 ⟨fun s i h => (by cases h), .map [], World.ownsMap_made _ _ _ _, fun s hs => ⟨rfl, fun i h => (by cases h)⟩⟩
/-! ### how many numbers it has -/
theorem nodup_le : ∀ {l m : List Int}, l.Nodup → (∀ i ∈ l, i ∈ m) → l.length ≤ m.length
 | [], _, _, _ => Nat.zero_le _
 | i :: l, m, h, hm => by
   obtain ⟨h1, h2⟩ := List.nodup_cons.1 h
   have hi := hm i List.mem_cons_self
   have := nodup_le (m := m.erase i) h2 fun j hj => (List.mem_erase_of_ne (fun e => by subst e; exact h1 hj)).2 (hm j (List.mem_cons_of_mem _ hj))
   rw [List.length_erase_of_mem hi] at this
   have := List.length_pos_of_mem hi
   rw [List.length_cons]; omega
theorem rowL_nodup {l : List (Int × Int)} (h : rowL l) : (l.map (·.1)).Nodup := List.pairwise_map.2 (List.Pairwise.imp (fun h e => by omega) h)
def numJ (k : Lit) : Int := match k with | .int _ i => i | _ => 0
theorem numJ_key (i : Int) : numJ (keyJ i) = i := rfl
theorem getL_in {l : List (Int × Int)} {s : Int} : s ∈ l.map (·.1) ↔ (getL l s).isSome = true := by
 constructor
 ·intro h
  obtain ⟨x, hx, rfl⟩ := List.mem_map.1 h
  cases hg : getL l x.1 with
  | some _ => rfl
  | none => exact absurd rfl (getL_none.1 hg x hx)
 ·intro h
  obtain ⟨v, hv⟩ := Option.isSome_iff_exists.1 h
  exact List.mem_map.2 ⟨_, getL_mem hv, rfl⟩
/-- the keys of a map that is a rising row's: each once, and its length -/
theorem sizeJ_is {w : World} {M n : Nat} {D : DataW Unit} {l : List (Int × Int)} (h : w.ownsMap Tryz.prog TJi RJ M n D) (hd : Dj D (getL l)) (hg : okJ (getL l)) (hr : rowL l) :
 size D = l.length ∧ w.ownsMap Tryz.prog TJi RJ M l.length D ∧ (intKeys D).Nodup ∧ ∀ s, s ∈ intKeys D ↔ s ∈ l.map (·.1) := by
 have h' := h
 obtain ⟨es, clock, hb, F, hs, rfl⟩ := h
 have hkey : ∀ p ∈ (es.toList.map (WideElems.rg Tryz.prog TJi RJ)).foldr DataW.insert [], ∃ i, p.1 = keyJ i ∧ Rgi i := by
  intro p hp
  obtain ⟨x, hx, rfl⟩ := List.mem_map.1 (mem_sorted.1 hp)
  obtain ⟨y, hy⟩ := F.reads x hx
  rw [WideElems.rg_of hy]
  obtain ⟨i, _, h2, h3⟩ := Maps.keyOf_int_inv undJi (WideElems.rd_key hy)
  exact ⟨i, h2, rgi_wf h3⟩
 obtain ⟨es2, he, hnd, _⟩ := h'.entries lawJ
 simp only [DataW.map.injEq] at he
 have hsz : size (DataW.map ((es.toList.map (WideElems.rg Tryz.prog TJi RJ)).foldr DataW.insert [])) = es.size := by simp [Maps.size, length_sorted]
 have hlen : ((es.toList.map (WideElems.rg Tryz.prog TJi RJ)).foldr DataW.insert []).length = es.size := by rw [length_sorted]; simp
 have hhas : ∀ i, Rgi i → (has (DataW.map ((es.toList.map (WideElems.rg Tryz.prog TJi RJ)).foldr DataW.insert [])) (keyJ i) = true ↔ ∃ p ∈ (es.toList.map (WideElems.rg Tryz.prog TJi RJ)).foldr DataW.insert [], p.1 = keyJ i) := fun i hi => by
  rw [has_eq, List.any_eq_true]
  constructor
  ·rintro ⟨p, hp, hpk⟩; exact ⟨p, hp, WideAt.sameKey_eq hpk⟩
  ·rintro ⟨p, hp, hpk⟩; exact ⟨p, hp, by rw [hpk]; exact WideAt.sameKey_self (keyJ_is hi)⟩
 rw [← he] at hnd
 generalize hl : (es.toList.map (WideElems.rg Tryz.prog TJi RJ)).foldr DataW.insert [] = L at *
 have hndn : (L.map fun p => numJ p.1).Nodup := by
  refine List.pairwise_map.2 (List.Pairwise.imp_of_mem (fun {a b} ha hb hne e => hne ?_) hnd)
  obtain ⟨i, hi, _⟩ := hkey a ha
  obtain ⟨j, hj, _⟩ := hkey b hb
  rw [hi, hj, numJ_key, numJ_key] at e
  rw [hi, hj, e]
 have hmem : ∀ s, s ∈ (L.map fun p => numJ p.1) ↔ s ∈ l.map (·.1) := fun s => by
  constructor
  ·intro hi
   obtain ⟨p, hp, rfl⟩ := List.mem_map.1 hi
   obtain ⟨j, hj, hji⟩ := hkey p hp
   rw [hj, numJ_key, getL_in, ← (hd j hji).1, hhas j hji]
   exact ⟨p, hp, hj⟩
  ·intro hi
   have h3 := getL_in.1 hi
   obtain ⟨y, hy⟩ := Option.isSome_iff_exists.1 h3
   have hji := (hg s y hy).1
   rw [← (hd s hji).1, hhas s hji] at h3
   obtain ⟨p, hp, e⟩ := h3
   exact List.mem_map.2 ⟨p, hp, by rw [e]; exact numJ_key s⟩
 have h1 := nodup_le hndn fun i hi => (hmem i).1 hi
 have h2 := nodup_le (rowL_nodup hr) fun i hi => (hmem i).2 hi
 have h4 : es.size = l.length := by rw [List.length_map, List.length_map] at h1 h2; omega
 have hk : intKeys (DataW.map L) = L.map fun p => numJ p.1 := List.map_congr_left fun p hp => by
  obtain ⟨i, hi, _⟩ := hkey p hp
  rw [hi]
  rfl
 refine ⟨by rw [hsz]; exact h4, ⟨es, clock, hb, F, by omega, by rw [hl]⟩, by rw [hk]; exact hndn, fun s => by rw [hk]; exact hmem s⟩
theorem Mj.exact {w : World} {M n : Nat} {l : List (Int × Int)} (h : Mj w M n (getL l)) (hr : rowL l) : Mj w M l.length (getL l) := by
 obtain ⟨h0, D, hown, hd⟩ := h
 exact ⟨h0, D, (sizeJ_is hown hd h0 hr).2.1, hd⟩
section
variable {w : World} {ops : Array Oper} {rest : List Oper} {o : Oper} {a : Act} {Q : Exit → Act → World → Prop}
/-- 'v, ok := m[s]' -/
theorem wpList_lookJ (hg : o.guard = none) (m x : Operand) (hop : o.op = Op.lookup TJ m x true) (b n : Nat) (f : Int → Option Int) (s : Int) (hm : a.eval m = .map (some b)) (h : Mj w b n f) (hx : a.eval x = .int .i64 s) (hs : Rgi s)
 (hK : wpList Tryz.prog ops Q rest (a.put o.dst (.tuple #[.int .i64 ((f s).getD 0), .bool (f s).isSome])) w) : wpList Tryz.prog ops Q (o :: rest) a w := by
 obtain ⟨h0, D, hown, hd⟩ := h
 obtain ⟨hh, hat⟩ := hd s hs
 refine wpList_lookup_own_ok_int w hg m x TJ hop TJi TJi .i64 lawJ undJ undJi (zeroJ _) b n D hm hown _ _ hx (keyJ_of hs) fun c hc _ => ?_
 rw [hh]
 cases hf : f s with
 | none =>
   rw [hf] at hh
   rw [atKey_of_not_has hh] at hc
   simp only [DataW.lit.injEq, Lit.int.injEq, true_and] at hc
   rw [hf] at hK
   rw [← hc]; exact hK
 | some i =>
   rw [hat i hf] at hc
   simp only [DataW.lit.injEq, Lit.int.injEq, true_and] at hc
   rw [hf] at hK
   rw [← hc]; exact hK
/-- 'm[s]' -/
theorem wpList_lookJ0 (hg : o.guard = none) (m x : Operand) (hop : o.op = Op.lookup TJ m x false) (b n : Nat) (f : Int → Option Int) (s : Int) (hm : a.eval m = .map (some b)) (h : Mj w b n f) (hx : a.eval x = .int .i64 s) (hs : Rgi s)
 (hK : wpList Tryz.prog ops Q rest (a.put o.dst (.int .i64 ((f s).getD 0))) w) : wpList Tryz.prog ops Q (o :: rest) a w := by
 obtain ⟨h0, D, hown, hd⟩ := h
 obtain ⟨hh, hat⟩ := hd s hs
 refine wpList_lookup_own_int w hg m x TJ hop TJi TJi .i64 lawJ undJ undJi (zeroJ _) b n D hm hown _ _ hx (keyJ_of hs) fun c hc _ => ?_
 cases hf : f s with
 | none =>
   rw [hf] at hh
   rw [atKey_of_not_has hh] at hc
   simp only [DataW.lit.injEq, Lit.int.injEq, true_and] at hc
   rw [hf] at hK
   rw [← hc]; exact hK
 | some i =>
   rw [hat i hf] at hc
   simp only [DataW.lit.injEq, Lit.int.injEq, true_and] at hc
   rw [hf] at hK
   rw [← hc]; exact hK
/-- 'm[s] = i' -/
theorem wpList_putJ (hg : o.guard = none) (m x v : Operand) (hop : o.op = Op.mapUpdate TJ m x v) (b n : Nat) (f : Int → Option Int) (s : Int) (i : Int) (hm : a.eval m = .map (some b)) (h : Mj w b n f) (hn : n ≤ 4194304) (hx : a.eval x = .int .i64 s) (hv : a.eval v = .int .i64 i) (hs : Rgi s) (hi : Rgi i)
 (hK : ∀ w', Mj w' b (n + 1) (fun t => if t = s then some i else f t) → w.grownBy w' (some b) → wpList Tryz.prog ops Q rest (a.put o.dst undef) w') : wpList Tryz.prog ops Q (o :: rest) a w := by
 obtain ⟨h0, D, hown, hd⟩ := h
 refine wpList_mapUpdate_own w hg m x v TJ hop TJi TJi lawJ undJ _ b n D hm hown (by unfold maxLen; omega) _ _ _ hx hv (keyJ_of hs) _ [] (plainElem_int undJi (wfJ hi)) fun w' ho hgr => ?_
 refine hK w' ⟨fun t j hj => ?_, _, ho, fun t ht => ?_⟩ hgr
 ·dsimp only at hj
  split at hj
  ·rename_i e
   simp only [Option.some.injEq] at hj
   subst e hj
   exact ⟨hs, hi⟩
  ·exact h0 t j hj
 ·dsimp only
  by_cases e : t = s
  ·subst e
   rw [if_pos rfl]
   refine ⟨has_put_same hown.isMap (keyJ_is hs) _, fun j hj z => ?_⟩
   simp only [Option.some.injEq] at hj
   subst hj
   exact atKey_put_same hown.isMap (keyJ_is hs) _ z
  ·rw [if_neg e, has_put_other (keyJ_ne e)]
   exact ⟨(hd t ht).1, fun j hj z => by rw [atKey_put_other (keyJ_ne e)]; exact (hd t ht).2 j hj z⟩
end
end Go.Proofs.YtpfbfhigelbfcaaGreat

