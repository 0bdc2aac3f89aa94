/- A table in memory, with values of any type. (gen_tge.py); Layer 20, the program: a table of index's own entries. (gen_ky.py); A table of index's own entries: own, next, steps, most. (gen_ky.py); A table of index's own entries: find. (gen_ky.py) -/
import Derived.Test.YtpfbfhigelbfcaaGreatSd11
import Derived.Test.YtpfbfhigelbfcaaGreatSd18
set_option linter.unusedSimpArgs false
set_option linter.unusedVariables false
namespace Go.Proofs.YtpfbfhigelbfcaaGreat
open Go.RowKit Go.Lib
namespace Tg
theorem bcs_at {d : List Int} (hd : d.length = 32) {i : Nat} (hi : i < 32) : (bcs d)[i]? = some (.int .u8 (d.getD i 0)) := by
 unfold bcs
 rw [List.getElem?_toArray, List.getElem?_map, List.getD_eq_getElem?_getD, List.getElem?_eq_getElem (by omega)]
 rfl
def fix32 (d : List Int) : List Int := (d ++ List.replicate 32 0).take 32
theorem fix32_length (d : List Int) : (fix32 d).length = 32 := by
 unfold fix32
 rw [List.length_take, List.length_append, List.length_replicate]
 omega
theorem fix32_same {d : List Int} (h : d.length = 32) : fix32 d = d := by
 unfold fix32
 rw [List.take_append_of_le_length (by omega), List.take_of_length_le (by omega)]
/-- how a table's values lie: the cells of one, those of the zero value, the types of a slot and of the table -/
structure Vt (α : Type) where
 E : Ec α
 z : List Value
 hz : z.length = E.k
 one : ∀ v ∈ z, v.oneCell' = true
 tS : TypeId
 tT : TypeId
variable {α : Type} {V : Vt α}
def slF (V : Vt α) : Option (Pg α) → List Value
 | none => mixL [.bool false] dzero V.z
 | some x => mixL [.bool true] (fix32 x.dg) (V.E.f x.v)
theorem mix_one {a z : List Value} {dg : List Int} (ha : ∀ v ∈ a, v.oneCell' = true) (hz : ∀ v ∈ z, v.oneCell' = true) : ∀ v ∈ mixL a dg z, v.oneCell' = true := fun v hv => by
 unfold mixL at hv
 rcases List.mem_append.1 hv with h | h
 ·exact ha v h
 ·rcases List.mem_append.1 h with h | h
  ·obtain ⟨y, _, rfl⟩ := List.mem_map.1 h; rfl
  ·exact hz v h
def encSl (V : Vt α) : Ec (Option (Pg α)) where
 f := slF V
 k := 33 + V.E.k
 t := V.tS
 d := none
 len := fun x => by
  cases x with
  | none => rw [slF, mixL_length, V.hz]; rfl
  | some x => rw [slF, mixL_length, fix32_length, V.E.len]; rfl
 one := fun x => by
  cases x with
  | none => exact mix_one (by simp [Value.oneCell']) V.one
  | some x => exact mix_one (by simp [Value.oneCell']) (V.E.one x.v)
 pos := by omega
/-- a slot's cells -/
theorem sl_none {W : World} {b : Nat} {A : Sg α} (h : Ir (encSl V) W b A) {p : Nat} (hp : p < A.length) (hn : atS A p = none) : W.cell? ⟨b, p * (33 + V.E.k), none⟩ = some (.bool false) ∧ W.rangeAt b (p * (33 + V.E.k) + 33) V.z := by
 have h1 := h.range hp
 have e : A.getD p (encSl V).d = none := by rw [List.getD_eq_getElem?_getD, atS_get hp, hn]; rfl
 rw [e] at h1
 refine ⟨h1 0 _ rfl, fun i v hv => ?_⟩
 have h2 := h1 (33 + i) v (by
  show (mixL [.bool false] dzero V.z)[33 + i]? = some v
  unfold mixL
  have e1 : (dzero.map (Value.int .u8)).length = 32 := by rw [List.length_map]; rfl
  rw [List.singleton_append, show 33 + i = (32 + i) + 1 by omega, List.getElem?_cons_succ, List.getElem?_append_right (by omega), e1, show 32 + i - 32 = i by omega]
  exact hv)
 rw [show p * (33 + V.E.k) + 33 + i = p * (33 + V.E.k) + (33 + i) by omega]
 exact h2
theorem sl_some {W : World} {b : Nat} {A : Sg α} (h : Ir (encSl V) W b A) {p : Nat} {x : Pg α} (hx : atS A p = some x) (hd : x.dg.length = 32) :
 W.cell? ⟨b, p * (33 + V.E.k), none⟩ = some (.bool true) ∧ W.rangeAt b (p * (33 + V.E.k) + 1) (x.dg.map (Value.int .u8)) ∧ W.rangeAt b (p * (33 + V.E.k) + 33) (V.E.f x.v) := by
 have h1 := h.range (atS_lt hx)
 have e : A.getD p (encSl V).d = some x := by rw [List.getD_eq_getElem?_getD, atS_get (atS_lt hx), hx]; rfl
 rw [e] at h1
 have h2 : W.rangeAt b (p * (33 + V.E.k)) (mixL [.bool true] x.dg (V.E.f x.v)) := by
  have e2 : (encSl V).f (some x) = mixL [.bool true] x.dg (V.E.f x.v) := by
   show mixL [.bool true] (fix32 x.dg) (V.E.f x.v) = _
   rw [fix32_same hd]
  rw [e2] at h1
  exact h1
 have hl : (x.dg.map (Value.int .u8)).length = 32 := by rw [List.length_map, hd]
 unfold mixL at h2
 refine ⟨h2 0 _ rfl, fun i v hv => ?_, fun i v hv => ?_⟩
 ·have hi : i < (x.dg.map (Value.int .u8)).length := (List.getElem?_eq_some_iff.1 hv).1
  rw [show p * (33 + V.E.k) + 1 + i = p * (33 + V.E.k) + (i + 1) by omega]
  refine h2 (i + 1) v ?_
  rw [List.singleton_append, List.getElem?_cons_succ, List.getElem?_append_left hi]
  exact hv
 ·rw [show p * (33 + V.E.k) + 33 + i = p * (33 + V.E.k) + (32 + i + 1) by omega]
  refine h2 (32 + i + 1) v ?_
  rw [List.singleton_append, List.getElem?_cons_succ, List.getElem?_append_right (by omega), hl, show 32 + i - 32 = i by omega]
  exact hv
theorem sl_dig {W : World} {b o : Nat} {d : List Int} (h : W.rangeAt b o (d.map (Value.int .u8))) (hd : d.length = 32) : (Instr.loadAt 35 (.pointer (some ⟨b, o, none⟩))).run Tryz.prog W = .ok (.agg (bcs d)) W := by
 have h1 := run_loadAt_mid W b o 35 _ _ h Tryz.underlying35 rfl (by rw [List.length_map, hd]; exact size32)
 rw [h1]
 rfl
def intZ (v : Value) : Int := match v with | .int _ x => x | _ => 0
structure Tm (V : Vt α) (W : World) (bT bS : Nat) (A : Sg α) (c : Nat) : Prop where
 hd : W.heap[bT]? = some (.cells #[.slice (some ⟨bS, 0, none⟩) A.length A.length, .int .i64 (c : Int)] V.tT (0, 0))
 ir : Ir (encSl V) W bS A
 ne : bT ≠ bS
structure TbP {α : Type} (A : Sg α) (L : List (Pg α)) (s : Int) (c : Nat) : Prop where
 iv : Inv A
 uq : Uniq L
 pm : L.Perm (cont A)
 cnt : c = L.length
 load : 4 * L.length ≤ 3 * A.length
 n8 : 8 ≤ A.length
 dv : A.length % 4 = 0
 n4 : A.length ≤ 4194304
 sl : s = (A.length : Int)
 dk : ∀ x ∈ L, dok x.dg
theorem TbP.uc {A : Sg α} {L : List (Pg α)} {s : Int} {c : Nat} (h : TbP A L s c) : Uniq (cont A) := uniq_perm h.pm h.uq
theorem TbP.free {A : Sg α} {L : List (Pg α)} {s : Int} {c : Nat} (h : TbP A L s c) : (cont A).length < A.length := by
 rw [← h.pm.length_eq]
 have := h.load
 have := h.n8
 omega
theorem TbP.dka {A : Sg α} {L : List (Pg α)} {s : Int} {c : Nat} (h : TbP A L s c) : ∀ p x, atS A p = some x → dok x.dg := fun p x hx => h.dk x (h.pm.mem_iff.2 (mem_cont.2 ⟨p, hx⟩))
def Tb (V : Vt α) (W : World) (S : Nat → Prop) (v : Value) (L : List (Pg α)) (s : Int) : Prop :=
 ∃ bT bS A c, v = .pointer (some ⟨bT, 0, none⟩) ∧ S = (fun b => b = bT ∨ b = bS) ∧ Tm V W bT bS A c ∧ TbP A L s c
theorem Tm.keep {W W' : World} {bT bS : Nat} {A : Sg α} {c : Nat} (h : Tm V W bT bS A c) (h1 : W'.heap[bT]? = W.heap[bT]?) (h2 : W'.heap[bS]? = W.heap[bS]?) : Tm V W' bT bS A c := ⟨h1.trans h.hd, h.ir.keep h2, h.ne⟩
theorem Tm.lt {W : World} {bT bS : Nat} {A : Sg α} {c : Nat} (h : Tm V W bT bS A c) : bT < W.heap.size := (Array.getElem?_eq_some_iff.1 h.hd).1
theorem Tm.later {W W' : World} {bT bS : Nat} {A : Sg α} {c : Nat} (h : Tm V W bT bS A c) (hb : Below W.heap.size W W') : Tm V W' bT bS A c := h.keep (hb.block _ h.lt) (hb.block _ h.ir.lt)
theorem Tm.cells {W : World} {bT bS : Nat} {A : Sg α} {c : Nat} (h : Tm V W bT bS A c) : W.cell? ⟨bT, 0, none⟩ = some (.slice (some ⟨bS, 0, none⟩) A.length A.length) ∧ W.cell? ⟨bT, 1, none⟩ = some (.int .i64 (c : Int)) :=
 ⟨by rw [cell_of_row W bT 0 _ _ _ h.hd]; rfl, by rw [cell_of_row W bT 1 _ _ _ h.hd]; rfl⟩
theorem tb_keep {w w' : World} {S : Nat → Prop} {v : Value} {L : List (Pg α)} {s : Int} (h : Tb V w S v L s) (hk : ∀ b, S b → w'.heap[b]? = w.heap[b]?) : Tb V w' S v L s := by
 obtain ⟨bT, bS, A, c, rfl, rfl, hm, hp⟩ := h
 exact ⟨bT, bS, A, c, rfl, rfl, hm.keep (hk _ (Or.inl rfl)) (hk _ (Or.inr rfl)), hp⟩
theorem tb_lt {w : World} {S : Nat → Prop} {v : Value} {L : List (Pg α)} {s : Int} (h : Tb V w S v L s) : ∀ b, S b → b < w.heap.size := by
 obtain ⟨bT, bS, A, c, rfl, rfl, hm, hp⟩ := h
 rintro b (rfl | rfl)
 ·exact hm.lt
 ·exact hm.ir.lt
theorem tbp_new : TbP (α := α) (List.replicate 8 (none : Option (Pg α))) [] 8 0 := ⟨inv_fresh 8, List.nodup_nil, by rw [cont_fresh], rfl, by simp, by simp, by simp, by simp, by simp, fun x hx => by cases hx⟩
theorem TbP.put_over {A : Sg α} {L : List (Pg α)} {s : Int} {c t : Nat} {d : List Int} {y : Pg α} (h : TbP A L s c) (hp : Pre A d t) (ht : t < A.length) (hx : atS A (posN A d t) = some y) (hy : y.dg = d) (hd : dok d) (x : α) :
 TbP (A.set (posN A d t) (some ⟨d, x⟩)) (putN L d x) (slotsN L s d) c := by
 have hpl := atS_lt hx
 have hg : getN L d = some y.v := by rw [getN_perm h.pm h.uq, ← hy]; exact at_get h.uc hx
 have hs : slotsN L s d = s := by unfold slotsN; rw [hg, if_neg (by simp)]
 have hl : (putN L d x).length = L.length := by rw [putN_length, cutN_some h.uq hg]
 exact ⟨h.iv.set hp ht x (fun z hz => by rw [hx] at hz; cases hz; exact hy), putN_uniq h.uq d x, (putN_perm h.pm d x).trans (cont_put hpl h.uc (Or.inr ⟨y, hx, hy⟩) x).symm,
  by rw [hl]; exact h.cnt, by rw [hl, List.length_set]; exact h.load, by rw [List.length_set]; exact h.n8, by rw [List.length_set]; exact h.dv, by rw [List.length_set]; exact h.n4, by rw [hs, List.length_set]; exact h.sl,
  fun z hz => by
   rcases List.mem_append.1 hz with e | e
   ·exact h.dk z (cutN_mem.1 e).1
   ·rw [List.mem_singleton] at e; subst e; exact hd⟩
theorem putN_dk1 {L : List (Pg α)} {d : List Int} {x : α} (h : ∀ y ∈ L, dok y.dg) (hd : dok d) : ∀ z ∈ putN L d x, dok z.dg := fun z hz => by
 rcases List.mem_append.1 hz with e | e
 ·exact h z (cutN_mem.1 e).1
 ·rw [List.mem_singleton] at e; subst e; exact hd
theorem TbP.put_new {A : Sg α} {L : List (Pg α)} {s : Int} {c t : Nat} {d : List Int} (h : TbP A L s c) (hp : Pre A d t) (ht : t < A.length) (hn : atS A (posN A d t) = none) (hd : dok d) (x : α) (hc : ¬ 3 * A.length < 4 * (c + 1)) :
 TbP (A.set (posN A d t) (some ⟨d, x⟩)) (putN L d x) (slotsN L s d) (c + 1) := by
 have hpl : posN A d t < A.length := posN_lt (by omega) d t
 have hg' : getN (cont A) d = none := hp.none h.iv hn
 have hg : getN L d = none := by rw [getN_perm h.pm h.uq]; exact hg'
 have hcl : (cutN L d).length = L.length := by rw [cutN_none hg]
 have h1 := h.sl
 have h2 := h.cnt
 have hs : slotsN L s d = s := by
  unfold slotsN
  rw [hcl, if_neg]
  rintro ⟨_, e⟩
  omega
 have hl : (putN L d x).length = L.length + 1 := by rw [putN_length, hcl]
 exact ⟨h.iv.set hp ht x (fun z hz => by rw [hn] at hz; cases hz), putN_uniq h.uq d x, (putN_perm h.pm d x).trans (cont_put hpl h.uc (Or.inl ⟨hn, hg'⟩) x).symm,
  by rw [hl, h2], by rw [hl, List.length_set]; omega, by rw [List.length_set]; exact h.n8, by rw [List.length_set]; exact h.dv, by rw [List.length_set]; exact h.n4, by rw [hs, List.length_set]; exact h.sl, putN_dk1 h.dk hd⟩
/-- what growing leaves -/
structure GrP (A A2 : Sg α) : Prop where
 iv : Inv A2
 pm : (cont A2).Perm (cont A)
 len : A2.length = 2 * A.length
theorem TbP.put_grow {A A2 : Sg α} {L : List (Pg α)} {s : Int} {c t : Nat} {d : List Int} (h : TbP A L s c) (hgd : getN (cont A) d = none) (g : GrP A A2) (hp : Pre A2 d t) (ht : t < A2.length) (hn : atS A2 (posN A2 d t) = none) (hd : dok d) (x : α) (hc : 3 * A.length < 4 * (c + 1)) (hc2 : L.length ≤ 1048576) :
 TbP (A2.set (posN A2 d t) (some ⟨d, x⟩)) (putN L d x) (slotsN L s d) (c + 1) := by
 have hpl : posN A2 d t < A2.length := posN_lt (by omega) d t
 have hpm : L.Perm (cont A2) := h.pm.trans g.pm.symm
 have hu2 : Uniq (cont A2) := uniq_perm hpm h.uq
 have hg' : getN (cont A2) d = none := hp.none g.iv hn
 have hg : getN L d = none := by rw [getN_perm h.pm h.uq]; exact hgd
 have hcl : (cutN L d).length = L.length := by rw [cutN_none hg]
 have h1 := h.sl
 have h2 := h.cnt
 have h3 := h.load
 have h4 := h.n8
 have h5 := g.len
 have hs : slotsN L s d = s * 2 := by
  unfold slotsN
  rw [hcl, hg, if_pos]
  exact ⟨rfl, by omega⟩
 have hl : (putN L d x).length = L.length + 1 := by rw [putN_length, hcl]
 exact ⟨g.iv.set hp ht x (fun z hz => by rw [hn] at hz; cases hz), putN_uniq h.uq d x, (putN_perm hpm d x).trans (cont_put hpl hu2 (Or.inl ⟨hn, hg'⟩) x).symm,
  by rw [hl, h2], by rw [hl, List.length_set]; omega, by rw [List.length_set]; omega, by rw [List.length_set]; have := h.dv; omega, by rw [List.length_set]; omega, by rw [hs, List.length_set]; omega, putN_dk1 h.dk hd⟩
theorem Tm.store {W : World} {bT bS : Nat} {A : Sg α} {c : Nat} (h : Tm V W bT bS A c) {p : Nat} (hp : p < A.length) (z : Option (Pg α)) : Tm V (W.setCells bS (p * (33 + V.E.k)) ((encSl V).f z)) bT bS (A.set p z) c := by
 refine ⟨?_, h.ir.store hp z, h.ne⟩
 rw [List.length_set]
 exact (h.ir.storeOther hp z bT h.ne).trans h.hd
theorem Tm.store_chg {W : World} {bT bS : Nat} {A : Sg α} {c : Nat} (h : Tm V W bT bS A c) {p : Nat} (hp : p < A.length) (z : Option (Pg α)) : Chg (fun b => b = bT ∨ b = bS) W (W.setCells bS (p * (33 + V.E.k)) ((encSl V).f z)) := by
 obtain ⟨h1, h2, h3, h4⟩ := h.ir.storeSize hp z
 exact ⟨h2, h3, h4, by rw [show W.setCells bS (p * (33 + V.E.k)) ((encSl V).f z) = W.setCells bS (p * (encSl V).k) ((encSl V).f z) from rfl, h1]; exact Nat.le_refl _, fun k _ hk => h.ir.storeOther hp z k (fun e => hk (Or.inr e))⟩
theorem Tm.count {W : World} {bT bS : Nat} {A : Sg α} {c : Nat} (h : Tm V W bT bS A c) (c' : Nat) : Tm V (W.setCell ⟨bT, 1, none⟩ (.int .i64 (c' : Int))) bT bS A c' := by
 rw [setCell_eq_setRow W bT 1 _ _ _ _ h.hd]
 exact ⟨setRow_heap W bT _ _ _ _ h.hd, h.ir.keep (setRow_other W bT bS _ (fun e => h.ne e.symm)), h.ne⟩
theorem Tm.count_chg {W : World} {bT bS : Nat} {A : Sg α} {c : Nat} (h : Tm V W bT bS A c) (v : Value) : Chg (fun b => b = bT ∨ b = bS) W (W.setCell ⟨bT, 1, none⟩ v) := by
 rw [setCell_eq_setRow W bT 1 _ _ _ _ h.hd]
 exact ⟨setRow_os _ _ _, setRow_tape _ _ _, setRow_output _ _ _, by rw [setRow_size]; exact Nat.le_refl _, fun k _ hk => setRow_other W bT k _ (fun e => hk (Or.inl e))⟩
theorem Tm.frozen {W : World} {bT bS : Nat} {A : Sg α} {c : Nat} (h : Tm V W bT bS A c) (j : Nat) : W.frozen? ⟨bT, j, none⟩ = false := frozen_of_row W bT j _ _ h.hd
end Tg
/-- block b holds an entry of index's own type -/
def Km (w : World) (b : Nat) (x : Pe) (s : Value) : Prop := Mx w b 124 [] x.dg (x.t s)
theorem sizeKn : (Tryz.prog.info? 124).map (·.size) = some 38 := by kernel_rfl
theorem knC_sizeOf (x : Pe) (s : Value) (hd : x.dg.length = 32) : (Tryz.prog.info? 124).map (·.size) = some (enC x s).size := by rw [enC_size x s hd]; exact sizeKn
theorem Km.later {w w' : World} {b : Nat} {x : Pe} {s : Value} (h : Km w b x s) (hb : Below w.heap.size w w') : Km w' b x s := Mx.later h hb
theorem Km.load {w : World} {b : Nat} {x : Pe} {s : Value} (h : Km w b x s) (hd : x.dg.length = 32) : (Instr.loadAt 124 (.pointer (some ⟨b, 0, none⟩))).run Tryz.prog w = .ok (.agg (enC x s)) w := Mx.load h _ Tryz.underlying124 rfl (knC_sizeOf x s hd)
theorem Km.dig {w : World} {b : Nat} {x : Pe} {s : Value} (h : Km w b x s) (hd : x.dg.length = 32) : (Instr.loadAt 35 (.pointer (some ⟨b, 0, none⟩))).run Tryz.prog w = .ok (.agg (bcs x.dg)) w :=
 Mx.loadDig h _ Tryz.underlying35 rfl (by rw [hd]; exact sizeD32) 0 rfl
theorem Km.cells {w : World} {b : Nat} {x : Pe} {s : Value} (h : Km w b x s) (hd : x.dg.length = 32) : w.cell? ⟨b, 32, none⟩ = some (.int .i64 x.k) ∧ w.cell? ⟨b, 33, none⟩ = some (.int .i64 x.z) ∧ w.cell? ⟨b, 34, none⟩ = some (.int .i64 x.seg) ∧ w.cell? ⟨b, 37, none⟩ = some s :=
 ⟨Mx.last h hd 0 _ rfl, Mx.last h hd 1 _ rfl, Mx.last h hd 2 _ rfl, Mx.last h hd 5 _ rfl⟩
theorem Km.res1 {fn : Func} {p : Tmp} {w : World} {g : Nat} {x : Pe} {s : Value} (hg : Km w g x s) (hd : x.dg.length = 32) (h : fn.results = #[.cell p 124]) (tmps : Array Value)
 (hp : tmps.getD p undef = .pointer (some ⟨g, 0, none⟩)) : (Go.results fn tmps).run Tryz.prog w = .ok (enV x s) w :=
 results_cell_row h tmps w g _ _ _ _ hp hg Tryz.underlying124 rfl (knC_sizeOf x s hd)
theorem Km.res2 {fn : Func} {p u : Tmp} {w : World} {g : Nat} {x : Pe} {s : Value} (hg : Km w g x s) (hd : x.dg.length = 32) (h : fn.results = #[.cell p 124, .tmp u]) (tmps : Array Value)
 (hp : tmps.getD p undef = .pointer (some ⟨g, 0, none⟩)) : (Go.results fn tmps).run Tryz.prog w = .ok (.tuple #[enV x s, tmps.getD u undef]) w := by
 rw [results_cell_tmp h, hp]
 simp only [asAddr, Sem.run_pure, Result.andThen]
 rw [run_loadVar_mid w g 0 124 _ _ (Mx.range hg) Tryz.underlying124 rfl (by rw [mixL_length, hd]; exact sizeKn)]
 rfl
theorem kn_load {W : World} {b o : Nat} {x : Ex} (h : W.rangeAt b o (mixL [] x.e.dg (x.e.t x.s))) : (Instr.loadAt 124 (.pointer (some ⟨b, o, none⟩))).run Tryz.prog W = .ok (.agg (enC x.e x.s)) W :=
 run_loadAt_mid W b o 124 _ _ h Tryz.underlying124 rfl (by rw [mixL_length, x.hd]; exact sizeKn)
namespace Tg
def exZ : Ex := ⟨zeroE, none, 0, rfl⟩
def vtE : Vt Ex where
 E := encEn
 z := encEn.f exZ
 hz := encEn.len exZ
 one := encEn.one exZ
 tS := 164
 tT := 157
theorem sizeSl : (Tryz.prog.info? 164).map (·.size) = some 71 := by kernel_rfl
theorem te_none {W : World} {b : Nat} {A : Sg Ex} (h : Ir (encSl vtE) W b A) {p : Nat} (hp : p < A.length) (hn : atS A p = none) : W.cell? ⟨b, p * 71, none⟩ = some (.bool false) ∧ W.rangeAt b (p * 71 + 33) (encEn.f exZ) := sl_none (V := vtE) h hp hn
theorem te_some {W : World} {b : Nat} {A : Sg Ex} (h : Ir (encSl vtE) W b A) {p : Nat} {x : Pg Ex} (hx : atS A p = some x) (hd : x.dg.length = 32) :
 W.cell? ⟨b, p * 71, none⟩ = some (.bool true) ∧ W.rangeAt b (p * 71 + 1) (x.dg.map (Value.int .u8)) ∧ W.rangeAt b (p * 71 + 33) (encEn.f x.v) := sl_some (V := vtE) h hx hd
theorem rngT_later {W V : World} {b o : Nat} {cs : List Value} (h : W.rangeAt b o cs) (hb : Below W.heap.size W V) : V.rangeAt b o cs := en_range h hb
theorem yw_dig {W : World} {b : Nat} {d : List Int} (h : Yw W b 35 d) (hd : d.length = 32) : (Instr.loadAt 35 (.pointer (some ⟨b, 0, none⟩))).run Tryz.prog W = .ok (.agg (bcs d)) W := h.load hd
end Tg
namespace Tg
theorem ofInt_i64 (a : Nat) (ha : a < 18446744073709551616) : (BitVec.ofInt 64 (a : Int)).toNat = a := by
 rw [BitVec.ofInt_natCast, BitVec.toNat_ofNat]; exact Nat.mod_eq_of_lt (by omega)
theorem i64_or_nat (a b : Nat) (ha : a < 4611686018427387904) (hb : b < 4611686018427387904) : bits .or .i64 (a : Int) (b : Int) = ((a ||| b : Nat) : Int) := by
 have hx : a ||| b < 2 ^ 62 := Nat.or_lt_two_pow (by omega) (by omega)
 show IntKind.i64.wrap ((BitVec.ofInt 64 (a : Int) ||| BitVec.ofInt 64 (b : Int)).toNat : Int) = _
 rw [BitVec.toNat_or, ofInt_i64 a (by omega), ofInt_i64 b (by omega), IntKind.wrap_i64]
 omega
theorem own_or {a b : Int} (ha : 0 ≤ a ∧ a < 256) (hb : 0 ≤ b ∧ b < 256) : bits .or .i64 a (b * 256) = a + 256 * b := by
 obtain ⟨x, rfl⟩ := Int.eq_ofNat_of_zero_le ha.1
 obtain ⟨y, rfl⟩ := Int.eq_ofNat_of_zero_le hb.1
 have h1 := i64_or_nat x (y * 256) (by omega) (by omega)
 have e : x ||| y * 256 = x + y * 256 := by
  have := Nat.two_pow_add_eq_or_of_lt (i := 8) (b := x) (by omega) y
  rw [Nat.or_comm, Nat.mul_comm y, show (256 : Nat) = 2 ^ 8 from rfl, ← this, Nat.add_comm]
 rw [e] at h1
 rw [show ((y : Int) * 256) = ((y * 256 : Nat) : Int) by omega, h1]
 omega
theorem home_num {a b : Int} {n : Nat} (ha : 0 ≤ a ∧ a < 256) (hb : 0 ≤ b ∧ b < 256) : (a + 256 * b).tmod (n : Int) = (((a + 256 * b).toNat % n : Nat) : Int) := by
 obtain ⟨m, hm⟩ : ∃ m : Nat, a + 256 * b = (m : Int) := ⟨(a + 256 * b).toNat, by omega⟩
 rw [hm, Int.toNat_natCast]
 rfl
set_option maxRecDepth 100000 in
set_option maxHeartbeats 1000000 in
theorem own_any {w : World} {bT bS : Nat} {A : Sg Ex} {c : Nat} (d : List Int) (h : Tm vtE w bT bS A c) (hd : dok d) (hn : 0 < A.length) (hn2 : A.length ≤ 4194304) :
 Calls Tryz.prog 134 #[.pointer (some ⟨bT, 0, none⟩), .agg (bcs d)] w fun e w' => e = .returned (.int .i64 ((hmN d % A.length : Nat) : Int)) ∧ Below w.heap.size w w' := by
 obtain ⟨w0, hw0⟩ : ∃ W, w.alloc (.cells (bcs d) 35) = W := ⟨_, rfl⟩
 obtain ⟨B, hB⟩ : ∃ x, w.heap.size = x := ⟨_, rfl⟩
 have hb0 : Below B w w0 := by rw [← hw0, ← hB]; exact (Below.refl _ _).alloc (Nat.le_refl _) _
 have hy : Yw w0 B 35 d := by rw [← hw0, ← hB]; exact heap_alloc_new _ _
 have c0 : w0.cell? ⟨B, 0, none⟩ = some (.int .u8 (d.getD 0 0)) := by rw [cell_of_row w0 B 0 _ _ _ hy, bcs_at hd.1 (by omega)]
 have c1 : w0.cell? ⟨B, 1, none⟩ = some (.int .u8 (d.getD 1 0)) := by rw [cell_of_row w0 B 1 _ _ _ hy, bcs_at hd.1 (by omega)]
 obtain ⟨t0, t1⟩ := (h.later (by rw [hB]; exact hb0)).cells
 obtain ⟨n, hnn⟩ : ∃ n, A.length = n := ⟨_, rfl⟩
 rw [hnn] at t0 hn hn2
 rw [hnn]
 have ha := hd.2 0
 have hb := hd.2 1
 have hnum := home_num (n := n) ha hb
 have hor := own_or ha hb
 have HE : Hid ((d.getD 0 0 + 256 * d.getD 1 0).toNat % n = hmN d % n) := Lib.hid rfl
 obtain ⟨a, ha'⟩ : ∃ x, d.getD 0 0 = x := ⟨_, rfl⟩
 obtain ⟨b, hb'⟩ : ∃ x, d.getD 1 0 = x := ⟨_, rfl⟩
 rw [ha'] at c0 ha hnum HE hor
 rw [hb'] at c1 hb hnum HE hor
 obtain ⟨ha0, ha1⟩ := ha
 obtain ⟨hb0', hb1'⟩ := hb
 have HB0 := Lib.hid hb0
 rw [HE.out] at hnum
 generalize hM : bcs d = M at *
 obtain ⟨r, hr⟩ : ∃ r, hmN d % n = r := ⟨_, rfl⟩
 rw [hr] at hnum
 rw [hr]
 have hn0 : (0 : Int) < (n : Int) := by omega
 have hnn : (n : Int) ≤ 4194304 := by omega
 have hw1 : IntKind.i64.wrap (b * 256) = b * 256 := by rw [IntKind.wrap_i64]; omega
 have hw2 : IntKind.i64.wrap (b * 2 ^ 8) = b * 256 := by rw [show b * 2 ^ 8 = b * 256 by omega]; exact hw1
 clear hd hy ha' hb' hM hr HE hb0 h t1
 go_enter Tryz.func134, Tryz.ntmps134
 go_wp2
 go_quiet (fail)
 have HBD : Hid (Below B w (w0.drewN nq)) := Lib.hid (below_drewN HB0.out nq)
 go_wp2
 go_ret
 exact ⟨by first | rfl | rw [hnum], by rw [hB]; exact HBD.out⟩
set_option maxRecDepth 100000 in
theorem next_any {w : World} {bT bS : Nat} {A : Sg Ex} {c : Nat} (p : Nat) (h : Tm vtE w bT bS A c) (hp : p < A.length) (hn2 : A.length ≤ 4194304) :
 Calls Tryz.prog 135 #[.pointer (some ⟨bT, 0, none⟩), .int .i64 (p : Int)] w fun e w' => e = .returned (.int .i64 (((p + 1) % A.length : Nat) : Int)) ∧ Below w.heap.size w w' := by
 obtain ⟨t0, t1⟩ := h.cells
 obtain ⟨n, hnn⟩ : ∃ n, A.length = n := ⟨_, rfl⟩
 rw [hnn] at t0 hp hn2
 rw [hnn]
 have hn0 : (0 : Int) < (n : Int) := by omega
 have hpi : (p : Int) < (n : Int) := by omega
 have hp0 : (0 : Int) ≤ (p : Int) := by omega
 have hni : (n : Int) ≤ 4194304 := by omega
 have htm : ((p : Int) + 1).tmod (n : Int) = (((p + 1) % n : Nat) : Int) := rfl
 clear h t1 hnn
 go_enter Tryz.func135, Tryz.ntmps135
 go_wp2
 go_ret
 exact ⟨by first | rfl | rw [htm], Below.refl _ _⟩
set_option maxRecDepth 100000 in
theorem most_any {w : World} {bT bS : Nat} {A : Sg Ex} {c : Nat} (h : Tm vtE w bT bS A c) (hn2 : A.length ≤ 4194304) :
 Calls Tryz.prog 132 #[.pointer (some ⟨bT, 0, none⟩)] w fun e w' => e = .returned (.int .i64 ((A.length / 4 * 3 : Nat) : Int)) ∧ Below w.heap.size w w' := by
 obtain ⟨t0, t1⟩ := h.cells
 obtain ⟨n, hnn⟩ : ∃ n, A.length = n := ⟨_, rfl⟩
 rw [hnn] at t0 hn2
 rw [hnn]
 have hni : (n : Int) ≤ 4194304 := by omega
 have htm : ((n : Int)).tdiv (4 : Int) = ((n / 4 : Nat) : Int) := rfl
 obtain ⟨m, hm⟩ : ∃ m, n / 4 = m := ⟨_, rfl⟩
 have hdv : (n : Int) / 4 = (m : Int) := by omega
 rw [hm] at htm
 rw [hm]
 have hmi : (m : Int) ≤ 1048576 := by omega
 clear h t1 hnn
 go_enter Tryz.func132, Tryz.ntmps132
 go_wp2
 go_ret
 exact ⟨by first | rfl | (rw [htm]; rfl) | (rw [hdv]; rfl), Below.refl _ _⟩
set_option maxRecDepth 100000 in
set_option maxHeartbeats 1000000 in
theorem steps_any {w : World} {bT bS : Nat} {A : Sg Ex} {c : Nat} (p q : Nat) (h : Tm vtE w bT bS A c) (hp : p < A.length) (hq : q < A.length) (hn2 : A.length ≤ 4194304) :
 Calls Tryz.prog 166 #[.pointer (some ⟨bT, 0, none⟩), .int .i64 (p : Int), .int .i64 (q : Int)] w fun e w' => e = .returned (.int .i64 (((q + (A.length - p)) % A.length : Nat) : Int)) ∧ Below w.heap.size w w' := by
 obtain ⟨t0, t1⟩ := h.cells
 obtain ⟨n, hnn⟩ : ∃ n, A.length = n := ⟨_, rfl⟩
 rw [hnn] at t0 hp hq hn2
 rw [hnn]
 have hn0 : (0 : Int) < (n : Int) := by omega
 have hpi : (p : Int) < (n : Int) := by omega
 have hp0 : (0 : Int) ≤ (p : Int) := by omega
 have hqi : (q : Int) < (n : Int) := by omega
 have hq0 : (0 : Int) ≤ (q : Int) := by omega
 have hni : (n : Int) ≤ 4194304 := by omega
 have HT : Hid (((q : Int) - (p : Int) + (n : Int)).tmod (n : Int) = (((q + (n - p)) % n : Nat) : Int)) := Lib.hid (by
  rw [show (q : Int) - (p : Int) + (n : Int) = ((q + (n - p) : Nat) : Int) by omega]
  rfl)
 have HT2 : Hid (((q : Int) - (p : Int) + (n : Int)) % (n : Int) = (((q + (n - p)) % n : Nat) : Int)) := Lib.hid (by
  rw [show (q : Int) - (p : Int) + (n : Int) = ((q + (n - p) : Nat) : Int) by omega]
  rfl)
 have hw1 : IntKind.i64.wrap ((q : Int) - (p : Int)) = (q : Int) - (p : Int) := by rw [IntKind.wrap_i64]; omega
 have hw2 : IntKind.i64.wrap ((q : Int) - (p : Int) + (n : Int)) = (q : Int) - (p : Int) + (n : Int) := by rw [IntKind.wrap_i64]; omega
 clear h t1 hnn
 go_enter Tryz.func166, Tryz.ntmps166
 go_wp2
 go_quiet (fail)
 have HBD : Hid (Below w.heap.size w (w.drewN nq)) := Lib.hid (below_drewN (Below.refl _ _) nq)
 go_wp2
 go_ret
 exact ⟨by first | rfl | (rw [HT.out]; rfl) | (rw [HT2.out]; rfl), HBD.out⟩
end Tg
namespace Tg
/-- what find answers -/
def FindQ (A : Sg Ex) (d : List Int) (w : World) (e : Ending) (w' : World) : Prop := ∃ t b, e = .returned (.tuple #[.int .i64 ((posN A d t : Nat) : Int), .bool b]) ∧ t < A.length ∧ Pre A d t ∧ (b = false ∧ atS A (posN A d t) = none ∨ b = true ∧ ∃ y, atS A (posN A d t) = some y ∧ y.dg = d) ∧ Below w.heap.size w w'
set_option maxRecDepth 100000 in
set_option maxHeartbeats 2000000 in
theorem find_any {w : World} {bT bS : Nat} {A : Sg Ex} {c : Nat} (d : List Int) (h : Tm vtE w bT bS A c) (hk : ∀ p x, atS A p = some x → dok x.dg) (hf : (cont A).length < A.length) (hn : A.length ≤ 4194304) (hd : dok d) :
 Calls Tryz.prog 109 #[.pointer (some ⟨bT, 0, none⟩), .agg (bcs d)] w (FindQ A d w) := by
 obtain ⟨w0, hw0⟩ : ∃ W, w.alloc (.cells (bcs d) 35) = W := ⟨_, rfl⟩
 obtain ⟨B, hB⟩ : ∃ x, w.heap.size = x := ⟨_, rfl⟩
 have hb0 : Below B w w0 := by rw [← hw0, ← hB]; exact (Below.refl _ _).alloc (Nat.le_refl _) _
 have hy : Yw w0 B 35 d := by rw [← hw0, ← hB]; exact heap_alloc_new _ _
 have HLD : Hid (∀ W, Below w0.heap.size w0 W → (Instr.loadAt 35 (.pointer (some ⟨B, 0, none⟩))).run Tryz.prog W = .ok (.agg (bcs d)) W) := Lib.hid fun W hW => yw_dig (hy.later hW) hd.1
 have H0 := Lib.hid (h.later (by rw [hB]; exact hb0))
 have HB0 := Lib.hid hb0
 have HBE := Lib.hid (Below.refl w0.heap.size w0)
 have HK := Lib.hid hk
 have HF := Lib.hid hf
 have HD := Lib.hid hd
 have HNX0 := Lib.hid fun W p (hW : Below w0.heap.size w0 W) (hp : p < A.length) => next_any p (H0.out.later hW) hp hn
 obtain ⟨n, hnn⟩ : ∃ n, A.length = n := ⟨_, rfl⟩
 have HN : Hid (A.length = n) := Lib.hid hnn
 have hnp : 0 < n := by omega
 have hn2 : n ≤ 4194304 := by omega
 have hp0 : hmN d % n = posN A d 0 := by unfold posN; rw [hnn, Nat.add_zero]
 have HH := Lib.hid fun W (hW : Below w0.heap.size w0 W) => own_any d (H0.out.later hW) hd (by omega) hn
 rw [hnn, hp0] at HH
 rw [hnn] at HNX0
 obtain ⟨h0, hh0⟩ : ∃ x, posN A d 0 = x := ⟨_, rfl⟩
 have HHM : Hid (h0 = hmN d % n) := Lib.hid (by rw [hp0, hh0])
 have HH0 := Lib.hid hh0
 rw [hh0] at HH
 clear h hk hf hd hb0 hy hn hnn hp0 hh0
 generalize hM : bcs d = M at *
 have HM := Lib.hid hM
 clear hM
 go_enter Tryz.func109, Tryz.ntmps109
 go_wp2
 go_step3
 go_wp2_with (first
  | (refine wpList_ld rfl 35 _ rfl _ rfl _ (HLD.out _ HBE.out) ?_)
  | (go_at_call 134; refine (HH.out _ HBE.out).mono ?_; rintro e w1 ⟨rfl, hb1⟩; have HB1 := Lib.hid hb1; clear hb1))
 go_step3
 go_wp2
 go_loopw [6] (fun iv wr => ∃ t : Nat, iv = .int .i64 ((posN A d t : Nat) : Int) ∧ Hid (Pre A d t) ∧ Hid (Below w0.heap.size w0 wr)) (fun iv _ => n - ((intZ iv).toNat + (n - h0)) % n)
 case atStart => exact ⟨0, by rw [HH0.out], Lib.hid (Pre.zero _ _), HB1⟩
 case round =>
  obtain ⟨t, rfl, HPR, HBR⟩ := hrel
  have htn : t < n := by rw [← HN.out]; exact HPR.out.lt HF.out
  have hpl : posN A d t < A.length := posN_lt (by rw [HN.out]; exact hnp) d t
  have HNX : Hid (posN A d (t + 1) = (posN A d t + 1) % n) := Lib.hid (by rw [posN_succ, HN.out])
  have HMS : Hid (t = (posN A d t + (n - h0)) % n) := Lib.hid (by
   have h1 := dist_own (A := A) (d := d) (u := t) (by rw [HN.out]; exact htn) rfl
   rw [HN.out, ← HHM.out] at h1
   exact h1)
  obtain ⟨p, hp⟩ : ∃ p, posN A d t = p := ⟨_, rfl⟩
  have HPE := Lib.hid hp
  rw [hp] at hpl HNX HMS
  have HIT := Lib.hid (H0.out.later HBR.out)
  have HIR : Hid (Ir (encSl vtE) wr bS A) := Lib.hid HIT.out.ir
  obtain ⟨t0, t1⟩ := HIT.out.cells
  rw [HN.out] at t0
  have hpn : p < n := by rw [← HN.out]; exact hpl
  have hpi : (p : Int) < (n : Int) := by omega
  have hp0 : (0 : Int) ≤ (p : Int) := by omega
  have HPL := Lib.hid hpl
  rw [hp]
  clear hp hpl t1
  cases hat : atS A p with
  | none =>
    obtain ⟨c0, _⟩ := te_none HIR.out HPL.out hat
    have HAT := Lib.hid hat
    clear hat
    go_wp2
    (try rw [Exit.noGoto_ret])
    go_ret2
    exact ⟨t, false, by rw [HPE.out]; rfl, by rw [HN.out]; exact htn, HPR.out, Or.inl ⟨rfl, by rw [HPE.out]; exact HAT.out⟩, by rw [hB]; exact HB0.out.trans (HBR.out.mono (by rw [← hB]; exact HB0.out.size))⟩
  | some y =>
    have HKY := Lib.hid (HK.out p y hat)
    obtain ⟨c0, c1, _⟩ := te_some HIR.out hat HKY.out.1
    have HAT := Lib.hid hat
    have HL1 : Hid (∀ W, (∃ m, W = wr.drewN m) → (Instr.loadAt 35 (.pointer (some ⟨bS, p * 71 + 1, none⟩))).run Tryz.prog W = .ok (.agg (bcs y.dg)) W) := Lib.hid (by rintro W ⟨m, rfl⟩; exact sl_dig (rngT_later c1 (below_drewN (Below.refl _ _) _)) HKY.out.1)
    have HL2 : Hid (∀ W, (∃ m, W = wr.drewN m) → (Instr.loadAt 35 (.pointer (some ⟨B, 0, none⟩))).run Tryz.prog W = .ok (.agg M) W) := Lib.hid (by rintro W ⟨m, rfl⟩; exact HLD.out _ (HBR.out.trans (below_drewN ((Below.refl _ _)) _)))
    have heq := fun W => digest_eq y.dg d HKY.out HD.out W
    rw [HM.out] at heq
    clear hat c1
    go_wp2
    refine wp_region_quiet_lit (by kernel_rfl) (by kernel_rfl) ?_
    repeat (first | (refine quiet_want rfl fun K hK => quiet_load 35 _ rfl _ rfl _ (HL1).out (hK _ ?_); clear hK K) | (refine quiet_want rfl fun K hK => quiet_load 35 _ rfl _ rfl _ (HL2).out (hK _ ?_); clear hK K) | (quiet_step (fail)))
    refine wpQuiet_nil ?_
    intro wd hw'
    obtain ⟨nq, hwd⟩ := hw'
    have hbd : Below wr.heap.size wr wd := by rw [hwd]; exact below_drewN (Below.refl _ _) _
    have HB2 : Hid (Below w0.heap.size w0 wd) := Lib.hid (below_step HBR.out hbd)
    clear hwd hbd heq c0 t0
    by_cases hxd : y.dg = d
    ·have hT : decide (y.dg = d) = true := by simpa using hxd
     go_wp2
     (try rw [Exit.noGoto_ret])
     go_ret2
     exact ⟨t, true, by rw [HPE.out]; rfl, by rw [HN.out]; exact htn, HPR.out, Or.inr ⟨rfl, y, by rw [HPE.out]; exact HAT.out, hxd⟩, by rw [hB]; exact HB0.out.trans (HB2.out.mono (by rw [← hB]; exact HB0.out.size))⟩
    ·have hT : decide (y.dg = d) = false := by simpa using hxd
     have HPS := Lib.hid (HPR.out.succ (by rw [HPE.out]; exact HAT.out) hxd)
     have htn1 : t + 1 < n := by rw [← HN.out]; exact HPS.out.lt HF.out
     have HMS2 : Hid (t + 1 = ((p + 1) % n + (n - h0)) % n) := Lib.hid (by
      have h1 := dist_own (A := A) (d := d) (u := t + 1) (by rw [HN.out]; exact htn1) rfl
      rw [HN.out, ← HHM.out, HNX.out] at h1
      exact h1)
     have HPLn : Hid (p < n) := Lib.hid hpn
     go_wp2_with (go_at_call 135; refine (HNX0.out _ _ HB2.out HPLn.out).mono ?_; rintro e w3 ⟨rfl, hb3⟩; have HB3 := Lib.hid (below_step HB2.out hb3); clear hb3)
     exact ⟨⟨t + 1, by rw [HNX.out]; rfl, HPS, HB3⟩, by
      show n - ((((p + 1) % n : Nat) : Int).toNat + (n - h0)) % n < n - (((p : Nat) : Int).toNat + (n - h0)) % n
      rw [Int.toNat_natCast, Int.toNat_natCast, ← HMS2.out, ← HMS.out]
      omega⟩
end Tg
end Go.Proofs.YtpfbfhigelbfcaaGreat

