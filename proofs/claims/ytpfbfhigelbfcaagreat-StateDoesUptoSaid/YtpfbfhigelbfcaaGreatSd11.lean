/- Layer 22: loads in memory; Rows of words in memory; Rows of words: one word laid anew; Rows of words: their words; Layer 19: rows of segments, parts of records, as they lie in memory; Layer 19: entries as they lie in memory; Layer 19: entries of names as they lie in memory; Layer 20: rows that are read out of blocks that last; Layer 20: rows of entries as they lie in memory; Layer 21: rows of name -/
import Derived.Test.YtpfbfhigelbfcaaGreatSd7
import Derived.Test.YtpfbfhigelbfcaaGreatSd10
set_option linter.unusedSimpArgs false
set_option linter.unusedVariables false
namespace Go.Proofs.YtpfbfhigelbfcaaGreat
open Go.RowKit Go.Lib
def encLo : Ec (Int × Int × Int) where
 f x := [.int .i64 x.1, .int .i64 x.2.1, .int .i64 x.2.2]
 k := 3
 t := 97
 d := (0, 0, 0)
 len _ := rfl
 one x v hv := by
  simp only [List.mem_cons, List.not_mem_nil, or_false] at hv
  rcases hv with rfl | rfl | rfl <;> rfl
 pos := by decide
def lozero : Value := .agg #[.int .i64 0, .int .i64 0, .int .i64 0]
theorem infoLo : (Tryz.prog.info? encLo.t).map (fun i => (i.zero, i.size, i.bytes)) = some (some lozero, encLo.k, 24) := by kernel_rfl
theorem lozero_size : lozero.cells.size = encLo.k := by kernel_rfl
theorem Gs.lo {w : World} {p : Option Addr} {n : Nat} {L : List (Int × Int × Int)} (h : Gs encLo w p n L) (j : Nat) (hj : j < n) : ∃ b off, p = some ⟨b, off, none⟩ ∧ w.cell? ⟨b, off + j * 3, none⟩ = some (.int .i64 (L.getD j (0, 0, 0)).1) ∧ w.cell? ⟨b, off + j * 3 + 1, none⟩ = some (.int .i64 (L.getD j (0, 0, 0)).2.1) ∧ w.cell? ⟨b, off + j * 3 + 2, none⟩ = some (.int .i64 (L.getD j (0, 0, 0)).2.2) := by
 obtain ⟨b, off, hp, hc⟩ := h.ptr j hj
 exact ⟨b, off, hp, hc 0 _ rfl, hc 1 _ rfl, hc 2 _ rfl⟩
def ldL (l : List (Int × Int)) : List (Int × Int × Int) := l.map fun x => (x.1, x.2, 0)
theorem ldL_append (l m : List (Int × Int)) : ldL (l ++ m) = ldL l ++ ldL m := List.map_append
theorem ldL_length (l : List (Int × Int)) : (ldL l).length = l.length := List.length_map _
theorem ldL_getD (l : List (Int × Int)) (j : Nat) (h : j < l.length) : (ldL l).getD j (0, 0, 0) = ((l.getD j (0, 0)).1, (l.getD j (0, 0)).2, 0) := by
 unfold ldL
 rw [List.getD_eq_getElem?_getD, List.getElem?_map, List.getElem?_eq_getElem h, List.getD_eq_getElem?_getD, List.getElem?_eq_getElem h]
 rfl
/-- block b holds a load -/
def Lm (W : World) (b : Nat) (x y z : Int) : Prop := W.heap[b]? = some (.cells #[.int .i64 x, .int .i64 y, .int .i64 z] 97 (0, 0))
theorem Lm.cells {W : World} {b : Nat} {x y z : Int} (h : Lm W b x y z) : W.cell? ⟨b, 0, none⟩ = some (.int .i64 x) ∧ W.cell? ⟨b, 1, none⟩ = some (.int .i64 y) ∧ W.cell? ⟨b, 2, none⟩ = some (.int .i64 z) :=
 ⟨cell_of_row _ _ 0 _ _ _ h, cell_of_row _ _ 1 _ _ _ h, cell_of_row _ _ 2 _ _ _ h⟩
theorem Lm.frozen {W : World} {b : Nat} {x y z : Int} (h : Lm W b x y z) (j : Nat) : W.frozen? ⟨b, j, none⟩ = false := frozen_of_row W b j _ _ h
theorem Lm.later {W V : World} {b : Nat} {x y z : Int} (h : Lm W b x y z) (hb : Below W.heap.size W V) : Lm V b x y z := (hb.block b (Array.getElem?_eq_some_iff.1 h).1).trans h
theorem Lm.lt {W : World} {b : Nat} {x y z : Int} (h : Lm W b x y z) : b < W.heap.size := (Array.getElem?_eq_some_iff.1 h).1
theorem Lm.set1 {W : World} {b : Nat} {x y z : Int} (h : Lm W b x y z) (u : Int) : Lm (W.setCell ⟨b, 1, none⟩ (.int .i64 u)) b x u z := heap_setCell_same W b 1 _ _ _ h
theorem Lm.set2 {W : World} {b : Nat} {x y z : Int} (h : Lm W b x y z) (u : Int) : Lm (W.setCell ⟨b, 2, none⟩ (.int .i64 u)) b x y u := heap_setCell_same W b 2 _ _ _ h
theorem Lm.keep {W V : World} {b : Nat} {x y z : Int} (h : Lm W b x y z) (hb : V.heap[b]? = W.heap[b]?) : Lm V b x y z := hb.trans h
/-- a row of the call's own outlives a store into another block -/
theorem Gw.setOther {α : Type} {E : Ec α} {W : World} {B G o : Nat} {v u : Value} {L : List α} (h : Gw E W B v L) (hG : ∀ b, v.ownBlock = some b → b ≠ G) : Gw E (W.setCell ⟨G, o, none⟩ u) B v L := by
 obtain ⟨hl, h2⟩ := h
 refine ⟨hl, ?_⟩
 rcases h2 with h2 | ⟨b, cap, cur, hv, hb, hgb, r⟩
 ·exact Or.inl h2
 ·exact Or.inr ⟨b, cap, cur, hv, hb, by rw [heap_setCell_other W ⟨G, o, none⟩ b u (hG b (by rw [hv]; rfl))]; exact hgb, r⟩
theorem Gw.own_lt {α : Type} {E : Ec α} {W : World} {B : Nat} {v : Value} {L : List α} (h : Gw E W B v L) {b : Nat} (hb : v.ownBlock = some b) : B ≤ b ∧ b < W.heap.size := World.ownsRow.lt h b hb
theorem mixL_one {a z : List Value} {dg : List Int} (ha : ∀ v ∈ a, v.oneCell' = true) (hz : ∀ v ∈ z, v.oneCell' = true) : ∀ v ∈ mixL a dg z, v.oneCell' = true := fun v hv => by
 unfold mixL at hv
 rcases List.mem_append.1 hv with h | h
 ·exact ha v h
 ·rcases List.mem_append.1 h with h | h
  ·obtain ⟨x, _, rfl⟩ := List.mem_map.1 h
   rfl
  ·exact hz v h
/-- a word whose digest has 32 bytes -/
abbrev Wx := { x : Wq // x.dg.length = 32 }
def encWd : Ec Wx where
 f := fun x => mixL x.1.a x.1.dg x.1.t
 k := 39
 t := 39
 d := ⟨wq0, rfl⟩
 len := fun x => by rw [mixL_length, x.2]; rfl
 one := fun x => mixL_one (by simp [Wq.a, Value.oneCell']) (by simp [Wq.t, Value.oneCell'])
 pos := by decide
theorem Gs.wx {W : World} {p : Option Addr} {n : Nat} {L : List Wx} (h : Gs encWd W p n L) (j : Nat) (hj : j < n) :
 ∃ b off x, p = some ⟨b, off, none⟩ ∧ L[j]? = some x ∧ x ∈ L ∧ W.rangeAt b (off + j * 39) (mixL x.1.a x.1.dg x.1.t) := by
 obtain ⟨b, off, hp, hc⟩ := h.ptr j hj
 have hl := h.len
 have hx : L[j]? = some (L[j]'(by omega)) := List.getElem?_eq_getElem _
 have e : L.getD j encWd.d = L[j]'(by omega) := by rw [List.getD_eq_getElem?_getD, hx]; rfl
 rw [e] at hc
 exact ⟨b, off, _, hp, hx, List.getElem_mem _, fun i v hv => hc i v hv⟩
theorem wx_load {W : World} {b o : Nat} {x : Wx} (h : W.rangeAt b o (mixL x.1.a x.1.dg x.1.t)) : (Instr.loadAt 39 (.pointer (some ⟨b, o, none⟩))).run Tryz.prog W = .ok (.agg (mixC x.1.a x.1.dg x.1.t)) W :=
 run_loadAt_mid W b o 39 _ _ h Tryz.underlying39 rfl (by rw [mixL_length, x.2]; exact size39)
def wzero : Value := .agg (mixC wq0.a wq0.dg wq0.t)
theorem infoWd : (Tryz.prog.info? encWd.t).map (fun i => (i.zero, i.size, i.bytes)) = some (some wzero, encWd.k, 96) := by kernel_rfl
theorem wzero_size : wzero.cells.size = encWd.k := by kernel_rfl
/-- '[]Word{x}': one word laid anew. -/
theorem wpList_build_wd {ops : Array Oper} {rest : List Oper} {o : Oper} {a : Act} {w : World} {Q : Exit → Act → World → Prop} (hg : o.guard = none) (t : TypeId) (x : Nat) (ho : o.op = .buildSlice t 1 #[(0, .tmp x)])
 (hu : Tryz.prog.underlying t = some (.slice 39)) (q : Wx) (hx : a.eval (.tmp x) = .agg (mixC q.1.a q.1.dg q.1.t))
 (h : wpList Tryz.prog ops Q rest (a.put o.dst (.slice (some ⟨w.heap.size, 0, none⟩) 1 1)) (w.alloc (.cells (mixC q.1.a q.1.dg q.1.t) 39))) : wpList Tryz.prog ops Q (o :: rest) a w := by
 obtain ⟨i, hi, hzz⟩ := Option.map_eq_some_iff.1 infoWd
 simp only [Prod.mk.injEq] at hzz
 obtain ⟨hz, hsz, _⟩ := hzz
 have hsz' : i.size = 39 := hsz
 refine wpList_buildSlice hg t 39 1 _ ho (mixC q.1.a q.1.dg q.1.t) i _ hu hi hz (by rw [hsz']; decide) (by rw [hsz']; decide) ?_ h
 rw [hsz']
 have hf := Great.fill_whole (s := 39) (by decide) [.agg (mixC q.1.a q.1.dg q.1.t)] ((Array.range (1 * 39)).map (wzero.cells[· % wzero.cells.size]!)) (by
  intro v hv
  rw [List.mem_singleton] at hv
  subst hv
  show (mixC q.1.a q.1.dg q.1.t).size = 39
  exact q.1.size q.2) (by simp)
 have e : (#[(0, Operand.tmp x)].map fun (p : Nat × Operand) => (p.1, a.eval p.2)).toList = [((0 : Nat), Value.agg (mixC q.1.a q.1.dg q.1.t))] := by
  simp [hx]
 rw [e]
 refine (Eq.trans ?_ hf).trans ?_
 ·rfl
 ·simp [Value.cells]
theorem Gs.oneWd (w : World) (q : Wx) : Gs encWd (w.alloc (.cells (mixC q.1.a q.1.dg q.1.t) 39)) (some ⟨w.heap.size, 0, none⟩) 1 [q] := Gs.one encWd w q _ rfl _ _
def wxL (L : List Wx) : List Wq := L.map (·.1)
theorem wxL_append (L M : List Wx) : wxL (L ++ M) = wxL L ++ wxL M := List.map_append
theorem wxL_length (L : List Wx) : (wxL L).length = L.length := List.length_map _
theorem wxL_get {L : List Wx} {j : Nat} {x : Wx} (h : L[j]? = some x) : (wxL L)[j]? = some x.1 := by unfold wxL; rw [List.getElem?_map, h]; rfl
/-- a slice that reads as these numbers -/
def Is (W : World) (s : Value) (L : List Int) : Prop := ∃ p c, s = .slice p L.length c ∧ Gs encI W p L.length L ∧ (p = none → c = 0) ∧ L.length ≤ c ∧ c ≤ maxLen
theorem Is.later {W W' : World} {s : Value} {L : List Int} (h : Is W s L) (hb : Below W.heap.size W W') : Is W' s L := by
 obtain ⟨p, c, h1, h2, h3⟩ := h
 exact ⟨p, c, h1, h2.later hb, h3⟩
theorem Is.nil (W : World) : Is W (.slice none 0 0) [] := ⟨none, 0, rfl, Gs.empty _ _ _, fun _ => rfl, Nat.le_refl _, by unfold maxLen; decide⟩
theorem Gw.is {W : World} {B : Nat} {v : Value} {L : List Int} (h : Gw encI W B v L) : Is W v L := by
 have h' := h
 obtain ⟨hl, h2⟩ := h
 rcases h2 with ⟨rfl, h0⟩ | ⟨g, cap, cur, rfl, hB, hg, hn, hm, hs, ht⟩
 ·obtain rfl := List.length_eq_zero_iff.1 h0
  exact Is.nil W
 ·exact ⟨_, cap, rfl, h'.gs, by simp, hn, hm⟩
theorem sizeD32 : (Tryz.prog.info? 35).map (·.size) = some 32 := by kernel_rfl
theorem sizeL3 : (Tryz.prog.info? 37).map (·.size) = some 3 := by kernel_rfl
theorem Wm.dig {w : World} {b : Nat} {x : Wq} (h : Wm w b x) (hd : x.dg.length = 32) : (Instr.loadAt 35 (.pointer (some ⟨b, 2, none⟩))).run Tryz.prog w = .ok (.agg (bcs x.dg)) w :=
 Mx.loadDig h _ Tryz.underlying35 rfl (by rw [hd]; exact sizeD32) 2 rfl
def lcA (seg off len : Int) : Array Value := #[.int .i64 seg, .int .i64 off, .int .i64 len]
/-- three cells of the last part of a struct with a digest: a place -/
theorem Mx.loc {w : World} {b : Nat} {t : TypeId} {a z : List Value} {dg : List Int} (h : Mx w b t a dg z) (hd : dg.length = 32) (k j : Nat) (hk : k = a.length + 32 + j) {x y u : Int} (h0 : z[j]? = some (.int .i64 x)) (h1 : z[j + 1]? = some (.int .i64 y)) (h2 : z[j + 2]? = some (.int .i64 u)) :
 (Instr.loadAt 37 (.pointer (some ⟨b, k, none⟩))).run Tryz.prog w = .ok (.agg (lcA x y u)) w := by
 subst hk
 refine run_loadAt_mid w b _ _ [.int .i64 x, .int .i64 y, .int .i64 u] _ (fun i v hv => ?_) Tryz.underlying37 rfl (by exact sizeL3)
 match i, hv with
 | 0, hv =>
   simp only [List.getElem?_cons_zero, Option.some.injEq] at hv
   rw [← hv]
   exact Mx.last h hd j _ h0
 | 1, hv =>
   simp only [List.getElem?_cons_succ, List.getElem?_cons_zero, Option.some.injEq] at hv
   rw [← hv, Nat.add_assoc]
   exact Mx.last h hd (j + 1) _ h1
 | 2, hv =>
   simp only [List.getElem?_cons_succ, List.getElem?_cons_zero, Option.some.injEq] at hv
   rw [← hv, Nat.add_assoc]
   exact Mx.last h hd (j + 2) _ h2
 | n + 3, hv => simp at hv
theorem Wm.cells5 {w : World} {b : Nat} {x : Wq} (h : Wm w b x) (hd : x.dg.length = 32) : w.cell? ⟨b, 0, none⟩ = some (.int .i64 x.k) ∧ w.cell? ⟨b, 34, none⟩ = some (.string x.nm) ∧ w.cell? ⟨b, 35, none⟩ = some (.int .i64 x.z) ∧ w.cell? ⟨b, 36, none⟩ = some (.int .i64 x.seg) :=
 ⟨Mx.first h 0 _ rfl, Mx.last h hd 0 _ rfl, Mx.last h hd 1 _ rfl, Mx.last h hd 2 _ rfl⟩
theorem Wm.loc {w : World} {b : Nat} {x : Wq} (h : Wm w b x) (hd : x.dg.length = 32) : (Instr.loadAt 37 (.pointer (some ⟨b, 36, none⟩))).run Tryz.prog w = .ok (.agg (lcA x.seg x.off x.len)) w := Mx.loc h hd 36 2 rfl rfl rfl rfl
def Pe.t (x : Pe) (s : Value) : List Value := [.int .i64 x.k, .int .i64 x.z, .int .i64 x.seg, .int .i64 x.off, .int .i64 x.len, s]
def enC (x : Pe) (s : Value) : Array Value := mixC [] x.dg (x.t s)
def enV (x : Pe) (s : Value) : Value := .agg (enC x s)
/-- block b holds an entry -/
def Em (w : World) (b : Nat) (x : Pe) (s : Value) : Prop := Mx w b 59 [] x.dg (x.t s)
theorem sizeEn : (Tryz.prog.info? 59).map (·.size) = some 38 := by kernel_rfl
theorem enC_size (x : Pe) (s : Value) (hd : x.dg.length = 32) : (enC x s).size = 38 := by unfold enC; rw [mixC_size, hd]; rfl
theorem enC_sizeOf (x : Pe) (s : Value) (hd : x.dg.length = 32) : (Tryz.prog.info? 59).map (·.size) = some (enC x s).size := by rw [enC_size x s hd]; exact sizeEn
theorem enC_one (x : Pe) (p : Option Addr) (n c : Nat) : (enC x (.slice p n c)).all (·.oneCell') = true := mixC_one (by simp) (by simp [Pe.t, Value.oneCell'])
theorem Em.later {w w' : World} {b : Nat} {x : Pe} {s : Value} (h : Em w b x s) (hb : Below w.heap.size w w') : Em w' b x s := Mx.later h hb
theorem Em.load {w : World} {b : Nat} {x : Pe} {s : Value} (h : Em w b x s) (hd : x.dg.length = 32) : (Instr.loadAt 59 (.pointer (some ⟨b, 0, none⟩))).run Tryz.prog w = .ok (.agg (enC x s)) w := Mx.load h _ Tryz.underlying59 rfl (enC_sizeOf x s hd)
theorem Em.dig {w : World} {b : Nat} {x : Pe} {s : Value} (h : Em w b x s) (hd : x.dg.length = 32) : (Instr.loadAt 35 (.pointer (some ⟨b, 0, none⟩))).run Tryz.prog w = .ok (.agg (bcs x.dg)) w :=
 Mx.loadDig h _ Tryz.underlying35 rfl (by rw [hd]; exact sizeD32) 0 rfl
/-- the cells of an entry that are read one by one -/
theorem Em.cells {w : World} {b : Nat} {x : Pe} {s : Value} (h : Em w b x s) (hd : x.dg.length = 32) : w.cell? ⟨b, 32, none⟩ = some (.int .i64 x.k) ∧ w.cell? ⟨b, 33, none⟩ = some (.int .i64 x.z) ∧ w.cell? ⟨b, 34, none⟩ = some (.int .i64 x.seg) ∧ w.cell? ⟨b, 37, none⟩ = some s :=
 ⟨Mx.last h hd 0 _ rfl, Mx.last h hd 1 _ rfl, Mx.last h hd 2 _ rfl, Mx.last h hd 5 _ rfl⟩
theorem Em.loc {w : World} {b : Nat} {x : Pe} {s : Value} (h : Em w b x s) (hd : x.dg.length = 32) : (Instr.loadAt 37 (.pointer (some ⟨b, 34, none⟩))).run Tryz.prog w = .ok (.agg (lcA x.seg x.off x.len)) w := Mx.loc h hd 34 2 rfl rfl rfl rfl
/-- what a function answers out of a block -/
theorem Em.res1 {fn : Func} {p : Tmp} {w : World} {g : Nat} {x : Pe} {s : Value} (hg : Em w g x s) (hd : x.dg.length = 32) (h : fn.results = #[.cell p 59]) (tmps : Array Value)
 (hp : tmps.getD p undef = .pointer (some ⟨g, 0, none⟩)) : (Go.results fn tmps).run Tryz.prog w = .ok (enV x s) w :=
 results_cell_row h tmps w g _ _ _ _ hp hg Tryz.underlying59 rfl (enC_sizeOf x s hd)
theorem Em.res2 {fn : Func} {p u : Tmp} {w : World} {g : Nat} {x : Pe} {s : Value} (hg : Em w g x s) (hd : x.dg.length = 32) (h : fn.results = #[.cell p 59, .tmp u]) (tmps : Array Value)
 (hp : tmps.getD p undef = .pointer (some ⟨g, 0, none⟩)) : (Go.results fn tmps).run Tryz.prog w = .ok (.tuple #[enV x s, tmps.getD u undef]) w := by
 rw [results_cell_tmp h, hp]
 simp only [asAddr, Sem.run_pure, Result.andThen]
 rw [run_loadVar_mid w g 0 59 _ _ (Mx.range hg) Tryz.underlying59 rfl (by rw [mixL_length, hd]; exact sizeEn)]
 rfl
theorem enZero : enC zeroE (.slice none 0 0) = #[.int .u8 0, .int .u8 0, .int .u8 0, .int .u8 0, .int .u8 0, .int .u8 0, .int .u8 0, .int .u8 0, .int .u8 0, .int .u8 0, .int .u8 0, .int .u8 0, .int .u8 0, .int .u8 0, .int .u8 0, .int .u8 0, .int .u8 0, .int .u8 0, .int .u8 0, .int .u8 0, .int .u8 0, .int .u8 0, .int .u8 0, .int .u8 0, .int .u8 0, .int .u8 0, .int .u8 0, .int .u8 0, .int .u8 0, .int .u8 0, .int .u8 0, .int .u8 0, .int .i64 0, .int .i64 0, .int .i64 0, .int .i64 0, .int .i64 0, .slice none 0 0] := rfl
def Pt.a (x : Pt) : List Value := [.string x.nm]
def Pt.t (x : Pt) (s : Value) : List Value := [.bool x.gone, .int .i64 x.seg, .int .i64 x.off, .int .i64 x.len, s]
def tnC (x : Pt) (s : Value) : Array Value := mixC x.a x.dg (x.t s)
def tnV (x : Pt) (s : Value) : Value := .agg (tnC x s)
def Tn (w : World) (b : Nat) (x : Pt) (s : Value) : Prop := Mx w b 64 x.a x.dg (x.t s)
theorem sizeTn : (Tryz.prog.info? 64).map (·.size) = some 38 := by kernel_rfl
theorem tnC_size (x : Pt) (s : Value) (hd : x.dg.length = 32) : (tnC x s).size = 38 := by unfold tnC; rw [mixC_size, hd]; rfl
theorem tnC_sizeOf (x : Pt) (s : Value) (hd : x.dg.length = 32) : (Tryz.prog.info? 64).map (·.size) = some (tnC x s).size := by rw [tnC_size x s hd]; exact sizeTn
theorem tnC_one (x : Pt) (p : Option Addr) (n c : Nat) : (tnC x (.slice p n c)).all (·.oneCell') = true := mixC_one (by simp [Pt.a, Value.oneCell']) (by simp [Pt.t, Value.oneCell'])
theorem Tn.later {w w' : World} {b : Nat} {x : Pt} {s : Value} (h : Tn w b x s) (hb : Below w.heap.size w w') : Tn w' b x s := Mx.later h hb
theorem Tn.load {w : World} {b : Nat} {x : Pt} {s : Value} (h : Tn w b x s) (hd : x.dg.length = 32) : (Instr.loadAt 64 (.pointer (some ⟨b, 0, none⟩))).run Tryz.prog w = .ok (.agg (tnC x s)) w := Mx.load h _ Tryz.underlying64 rfl (tnC_sizeOf x s hd)
theorem Tn.dig {w : World} {b : Nat} {x : Pt} {s : Value} (h : Tn w b x s) (hd : x.dg.length = 32) : (Instr.loadAt 35 (.pointer (some ⟨b, 1, none⟩))).run Tryz.prog w = .ok (.agg (bcs x.dg)) w :=
 Mx.loadDig h _ Tryz.underlying35 rfl (by rw [hd]; exact sizeD32) 1 rfl
theorem Tn.cells {w : World} {b : Nat} {x : Pt} {s : Value} (h : Tn w b x s) (hd : x.dg.length = 32) : w.cell? ⟨b, 0, none⟩ = some (.string x.nm) ∧ w.cell? ⟨b, 33, none⟩ = some (.bool x.gone) ∧ w.cell? ⟨b, 34, none⟩ = some (.int .i64 x.seg) ∧ w.cell? ⟨b, 37, none⟩ = some s :=
 ⟨Mx.first h 0 _ rfl, Mx.last h hd 0 _ rfl, Mx.last h hd 1 _ rfl, Mx.last h hd 4 _ rfl⟩
theorem Tn.loc {w : World} {b : Nat} {x : Pt} {s : Value} (h : Tn w b x s) (hd : x.dg.length = 32) : (Instr.loadAt 37 (.pointer (some ⟨b, 34, none⟩))).run Tryz.prog w = .ok (.agg (lcA x.seg x.off x.len)) w := Mx.loc h hd 34 1 rfl rfl rfl rfl
theorem Tn.res1 {fn : Func} {p : Tmp} {w : World} {g : Nat} {x : Pt} {s : Value} (hg : Tn w g x s) (hd : x.dg.length = 32) (h : fn.results = #[.cell p 64]) (tmps : Array Value)
 (hp : tmps.getD p undef = .pointer (some ⟨g, 0, none⟩)) : (Go.results fn tmps).run Tryz.prog w = .ok (tnV x s) w :=
 results_cell_row h tmps w g _ _ _ _ hp hg Tryz.underlying64 rfl (tnC_sizeOf x s hd)
theorem Tn.res2 {fn : Func} {p u : Tmp} {w : World} {g : Nat} {x : Pt} {s : Value} (hg : Tn w g x s) (hd : x.dg.length = 32) (h : fn.results = #[.cell p 64, .tmp u]) (tmps : Array Value)
 (hp : tmps.getD p undef = .pointer (some ⟨g, 0, none⟩)) : (Go.results fn tmps).run Tryz.prog w = .ok (.tuple #[tnV x s, tmps.getD u undef]) w := by
 rw [results_cell_tmp h, hp]
 simp only [asAddr, Sem.run_pure, Result.andThen]
 rw [run_loadVar_mid w g 0 64 _ _ (Mx.range hg) Tryz.underlying64 rfl (by rw [mixL_length, hd]; exact sizeTn)]
 rfl
theorem tnZero : tnC zeroT (.slice none 0 0) = #[.string ⟨#[]⟩, .int .u8 0, .int .u8 0, .int .u8 0, .int .u8 0, .int .u8 0, .int .u8 0, .int .u8 0, .int .u8 0, .int .u8 0, .int .u8 0, .int .u8 0, .int .u8 0, .int .u8 0, .int .u8 0, .int .u8 0, .int .u8 0, .int .u8 0, .int .u8 0, .int .u8 0, .int .u8 0, .int .u8 0, .int .u8 0, .int .u8 0, .int .u8 0, .int .u8 0, .int .u8 0, .int .u8 0, .int .u8 0, .int .u8 0, .int .u8 0, .int .u8 0, .int .u8 0, .bool false, .int .i64 0, .int .i64 0, .int .i64 0, .slice none 0 0] := rfl
theorem en_range {W V : World} {b o : Nat} {cs : List Value} (h : W.rangeAt b o cs) (hb : Below W.heap.size W V) : V.rangeAt b o cs := fun i v hv => by
 have h1 := h i v hv
 rw [hb.cell (World.block_lt_of_cell? W _ h1)]
 exact h1
theorem Is.hold {W W' : World} {s : Value} {L : List Int} (h : Is W s L) (hk : L ≠ [] → ∀ b, s.ownBlock = some b → W'.heap[b]? = W.heap[b]?) : Is W' s L := by
 obtain ⟨p, c, rfl, h2, h3⟩ := h
 refine ⟨p, c, rfl, ⟨h2.1, ?_⟩, h3⟩
 rcases h2.2 with h0 | ⟨b, off, rfl, hc⟩
 ·exact Or.inl h0
 ·by_cases hL : L = []
  ·exact Or.inl (by rw [hL]; rfl)
  ·have h4 := hk hL b rfl
   refine Or.inr ⟨b, off, rfl, fun j hj i u hu => ?_⟩
   rw [World.cell?_of_block (a := ⟨b, off + j * encI.k + i, none⟩) h4]
   exact hc j hj i u hu
theorem Is.lt {W : World} {s : Value} {L : List Int} (h : Is W s L) (hL : L ≠ []) {b : Nat} (hb : s.ownBlock = some b) : b < W.heap.size := by
 obtain ⟨p, c, rfl, h2, h3⟩ := h
 cases p with
 | none => cases hb
 | some a =>
   simp only [Value.ownBlock, Option.some.injEq] at hb
   subst hb
   have hn : 0 < L.length := List.length_pos_iff.2 hL
   obtain ⟨b, off, hp⟩ : ∃ b off, a = ⟨b, off, none⟩ := by
    rcases h2.2 with h0 | ⟨b, off, hp, hc⟩
    ·omega
    ·exact ⟨b, off, by simpa using hp⟩
   subst hp
   exact h2.block_lt hn
theorem Gs.hold {α : Type} {E : Ec α} {W W' : World} {p : Option Addr} {n : Nat} {L : List α} (h : Gs E W p n L) (hk : n ≠ 0 → ∀ b off, p = some ⟨b, off, none⟩ → W'.heap[b]? = W.heap[b]?) : Gs E W' p n L := by
 refine ⟨h.1, ?_⟩
 rcases h.2 with h0 | ⟨b, off, rfl, hc⟩
 ·exact Or.inl h0
 ·by_cases hn : n = 0
  ·exact Or.inl hn
  ·have h4 := hk hn b off rfl
   refine Or.inr ⟨b, off, rfl, fun j hj i u hu => ?_⟩
   rw [World.cell?_of_block (a := ⟨b, off + j * E.k + i, none⟩) h4]
   exact hc j hj i u hu
/-- an entry and where its row of segments lies -/
structure Ex where
 e : Pe
 p : Option Addr
 c : Nat
 hd : e.dg.length = 32
def Ex.s (x : Ex) : Value := .slice x.p x.e.ins.length x.c
def encEn : Ec Ex where
 f := fun x => mixL [] x.e.dg (x.e.t x.s)
 k := 38
 t := 59
 d := ⟨zeroE, none, 0, rfl⟩
 len := fun x => by rw [mixL_length, x.hd]; rfl
 one := fun x v hv => by
  unfold mixL at hv
  rcases List.mem_append.1 hv with h | h
  ·cases h
  ·rcases List.mem_append.1 h with h | h
   ·obtain ⟨y, _, rfl⟩ := List.mem_map.1 h; rfl
   ·simp only [Pe.t, Ex.s, List.mem_cons, List.not_mem_nil, or_false] at h
    rcases h with rfl | rfl | rfl | rfl | rfl | rfl <;> rfl
 pos := by decide
def peL (L : List Ex) : List Pe := L.map (·.e)
theorem peL_length (L : List Ex) : (peL L).length = L.length := List.length_map _
theorem peL_append (L M : List Ex) : peL (L ++ M) = peL L ++ peL M := List.map_append
theorem peL_get {L : List Ex} {j : Nat} {x : Ex} (h : L[j]? = some x) : (peL L)[j]? = some x.e := by unfold peL; rw [List.getElem?_map, h]; rfl
theorem Ex.fC (x : Ex) : encEn.f x = (enC x.e x.s).toList := by
 unfold enC mixC
 rw [List.toList_toArray]
 rfl
theorem Gs.en {W : World} {p : Option Addr} {n : Nat} {L : List Ex} (h : Gs encEn W p n L) (j : Nat) (hj : j < n) :
 ∃ b off x, p = some ⟨b, off, none⟩ ∧ L[j]? = some x ∧ x ∈ L ∧ W.rangeAt b (off + j * 38) (mixL [] x.e.dg (x.e.t x.s)) := by
 obtain ⟨b, off, hp, hc⟩ := h.ptr j hj
 have hl := h.len
 have hx : L[j]? = some (L[j]'(by omega)) := List.getElem?_eq_getElem _
 have e : L.getD j encEn.d = L[j]'(by omega) := by rw [List.getD_eq_getElem?_getD, hx]; rfl
 rw [e] at hc
 exact ⟨b, off, _, hp, hx, List.getElem_mem _, fun i v hv => hc i v hv⟩
theorem en_load {W : World} {b o : Nat} {x : Ex} (h : W.rangeAt b o (mixL [] x.e.dg (x.e.t x.s))) : (Instr.loadAt 59 (.pointer (some ⟨b, o, none⟩))).run Tryz.prog W = .ok (.agg (enC x.e x.s)) W :=
 run_loadAt_mid W b o 59 _ _ h Tryz.underlying59 rfl (by rw [mixL_length, x.hd]; exact sizeEn)
theorem en_dig {W : World} {b o : Nat} {x : Ex} (h : W.rangeAt b o (mixL [] x.e.dg (x.e.t x.s))) : (Instr.loadAt 35 (.pointer (some ⟨b, o, none⟩))).run Tryz.prog W = .ok (.agg (bcs x.e.dg)) W := by
 have h1 : W.rangeAt b o (x.e.dg.map (Value.int .u8)) := fun i v hv => by
  refine h i v ?_
  unfold mixL
  rw [List.nil_append, List.getElem?_append_left (List.getElem?_eq_some_iff.1 hv).1]
  exact hv
 exact run_loadAt_mid W b o 35 _ _ h1 Tryz.underlying35 rfl (by rw [List.length_map, x.hd]; exact sizeD32)
def ezero : Value := .agg (enC zeroE (.slice none 0 0))
theorem infoEn : (Tryz.prog.info? encEn.t).map (fun i => (i.zero, i.size, i.bytes)) = some (some ezero, encEn.k, 96) := by kernel_rfl
theorem ezero_size : ezero.cells.size = encEn.k := by kernel_rfl
/-- an entry whose slice is open -/
theorem Is.ex {W : World} {s : Value} {e : Pe} (h : Is W s e.ins) (hd : e.dg.length = 32) : ∃ x : Ex, x.e = e ∧ x.s = s ∧ Is W x.s x.e.ins := by
 obtain ⟨p, c, rfl, h2⟩ := h
 exact ⟨⟨e, p, c, hd⟩, rfl, rfl, ⟨p, c, rfl, h2⟩⟩
/-- a row of entries that is read out of blocks of N -/
structure ReN (W : World) (N : Nat → Prop) (p : Option Addr) (n : Nat) (L : List Ex) : Prop where
 gs : Gs encEn W p n L
 row : n ≠ 0 → ∀ b off, p = some ⟨b, off, none⟩ → N b
 is : ∀ x ∈ L, Is W x.s x.e.ins
 bl : ∀ x ∈ L, x.e.ins ≠ [] → ∀ b, x.s.ownBlock = some b → N b
 dk : ∀ x ∈ L, dok x.e.dg
 lt : ∀ b, N b → b < W.heap.size
theorem ReN.hold {W W' : World} {N : Nat → Prop} {p : Option Addr} {n : Nat} {L : List Ex} (h : ReN W N p n L) (hk : ∀ b, N b → W'.heap[b]? = W.heap[b]?) (hs : W.heap.size ≤ W'.heap.size) : ReN W' N p n L :=
 ⟨h.gs.hold fun hn b off hp => hk b (h.row hn b off hp), h.row, fun x hx => (h.is x hx).hold fun hL b hb => hk b (h.bl x hx hL b hb), h.bl, h.dk, fun b hb => Nat.lt_of_lt_of_le (h.lt b hb) hs⟩
theorem ReN.later {W W' : World} {N : Nat → Prop} {p : Option Addr} {n : Nat} {L : List Ex} (h : ReN W N p n L) (hb : Below W.heap.size W W') : ReN W' N p n L :=
 h.hold (fun b hN => hb.block b (h.lt b hN)) hb.size
/-- a row that a call answers: of entries that were there, or whose rows of segments are its own -/
theorem ReN.next {w w' : World} {N : Nat → Prop} {p q : Option Addr} {n m : Nat} {L o : List Ex} (h : ReN w N p n L) (hb : Below w.heap.size w w') (hg : Gs encEn w' q m o) (hq : m ≠ 0 → ∀ b off, q = some ⟨b, off, none⟩ → N b ∨ w.heap.size ≤ b)
 (ho : ∀ x ∈ o, x ∈ L ∨ dok x.e.dg ∧ Gw encI w' w.heap.size x.s x.e.ins) : ReN w' (fun b => N b ∨ (w.heap.size ≤ b ∧ b < w'.heap.size)) q m o := by
 refine ⟨hg, fun hn b off hp => ?_, fun x hx => ?_, fun x hx hL b hb2 => ?_, fun x hx => ?_, fun b hb2 => ?_⟩
 ·rcases hq hn b off hp with h1 | h1
  ·exact Or.inl h1
  ·subst hp
   exact Or.inr ⟨h1, hg.block_lt (by omega)⟩
 ·rcases ho x hx with h1 | ⟨_, h1⟩
  ·exact (h.is x h1).later hb
  ·exact h1.is
 ·rcases ho x hx with h1 | ⟨_, h1⟩
  ·exact Or.inl (h.bl x h1 hL b hb2)
  ·refine Or.inr ⟨?_, h1.is.lt hL hb2⟩
   obtain ⟨hl, h3⟩ := h1
   rcases h3 with ⟨h4, h0⟩ | ⟨g, cap, cur, h4, hB2, _⟩
   ·rw [h4] at hb2; cases hb2
   ·rw [h4] at hb2
    simp only [Value.ownBlock, Option.some.injEq] at hb2
    omega
 ·rcases ho x hx with h1 | ⟨h1, _⟩
  ·exact h.dk x h1
  ·exact h1
 ·rcases hb2 with h1 | h1
  ·exact Nat.lt_of_lt_of_le (h.lt b h1) hb.size
  ·exact h1.2
theorem ReN.mono {W : World} {N M : Nat → Prop} {p : Option Addr} {n : Nat} {L : List Ex} (h : ReN W N p n L) (hs : ∀ b, N b → M b) (hl : ∀ b, M b → b < W.heap.size) : ReN W M p n L :=
 ⟨h.gs, fun hn b off hp => hs b (h.row hn b off hp), h.is, fun x hx hL b hb => hs b (h.bl x hx hL b hb), h.dk, hl⟩
/-- an entry and where its row of segments lies -/
structure Tx where
 e : Pt
 p : Option Addr
 c : Nat
 hd : e.dg.length = 32
def Tx.s (x : Tx) : Value := .slice x.p x.e.ins.length x.c
def encTn : Ec Tx where
 f := fun x => mixL x.e.a x.e.dg (x.e.t x.s)
 k := 38
 t := 64
 d := ⟨zeroT, none, 0, rfl⟩
 len := fun x => by rw [mixL_length, x.hd]; rfl
 one := fun x v hv => by
  unfold mixL at hv
  rcases List.mem_append.1 hv with h | h
  ·simp only [Pt.a, List.mem_cons, List.not_mem_nil, or_false] at h
   subst h; rfl
  ·rcases List.mem_append.1 h with h | h
   ·obtain ⟨y, _, rfl⟩ := List.mem_map.1 h; rfl
   ·simp only [Pt.t, Tx.s, List.mem_cons, List.not_mem_nil, or_false] at h
    rcases h with rfl | rfl | rfl | rfl | rfl <;> rfl
 pos := by decide
def ptL (L : List Tx) : List Pt := L.map (·.e)
theorem ptL_length (L : List Tx) : (ptL L).length = L.length := List.length_map _
theorem ptL_append (L M : List Tx) : ptL (L ++ M) = ptL L ++ ptL M := List.map_append
theorem ptL_get {L : List Tx} {j : Nat} {x : Tx} (h : L[j]? = some x) : (ptL L)[j]? = some x.e := by unfold ptL; rw [List.getElem?_map, h]; rfl
theorem Tx.fC (x : Tx) : encTn.f x = (tnC x.e x.s).toList := by
 unfold tnC mixC
 rw [List.toList_toArray]
 rfl
theorem Gs.tn {W : World} {p : Option Addr} {n : Nat} {L : List Tx} (h : Gs encTn W p n L) (j : Nat) (hj : j < n) :
 ∃ b off x, p = some ⟨b, off, none⟩ ∧ L[j]? = some x ∧ x ∈ L ∧ W.rangeAt b (off + j * 38) (mixL x.e.a x.e.dg (x.e.t x.s)) := by
 obtain ⟨b, off, hp, hc⟩ := h.ptr j hj
 have hl := h.len
 have hx : L[j]? = some (L[j]'(by omega)) := List.getElem?_eq_getElem _
 have e : L.getD j encTn.d = L[j]'(by omega) := by rw [List.getD_eq_getElem?_getD, hx]; rfl
 rw [e] at hc
 exact ⟨b, off, _, hp, hx, List.getElem_mem _, fun i v hv => hc i v hv⟩
theorem tn_load {W : World} {b o : Nat} {x : Tx} (h : W.rangeAt b o (mixL x.e.a x.e.dg (x.e.t x.s))) : (Instr.loadAt 64 (.pointer (some ⟨b, o, none⟩))).run Tryz.prog W = .ok (.agg (tnC x.e x.s)) W :=
 run_loadAt_mid W b o 64 _ _ h Tryz.underlying64 rfl (by rw [mixL_length, x.hd]; exact sizeTn)
theorem tn_cells {W : World} {b o : Nat} {x : Tx} (h : W.rangeAt b o (mixL x.e.a x.e.dg (x.e.t x.s))) : W.cell? ⟨b, o, none⟩ = some (.string x.e.nm) ∧ W.cell? ⟨b, o + 33, none⟩ = some (.bool x.e.gone) := by
 have hl : (x.e.dg.map (Value.int .u8)).length = 32 := by rw [List.length_map, x.hd]
 refine ⟨h 0 _ rfl, h 33 _ ?_⟩
 show (Value.string x.e.nm :: (x.e.dg.map (Value.int .u8) ++ x.e.t x.s))[33]? = _
 rw [List.getElem?_cons_succ, List.getElem?_append_right (by omega), hl]
 rfl
def tzero : Value := .agg (tnC zeroT (.slice none 0 0))
theorem infoTn : (Tryz.prog.info? encTn.t).map (fun i => (i.zero, i.size, i.bytes)) = some (some tzero, encTn.k, 104) := by kernel_rfl
theorem tzero_size : tzero.cells.size = encTn.k := by kernel_rfl
/-- an entry whose slice is open -/
theorem Is.tx {W : World} {s : Value} {e : Pt} (h : Is W s e.ins) (hd : e.dg.length = 32) : ∃ x : Tx, x.e = e ∧ x.s = s ∧ Is W x.s x.e.ins := by
 obtain ⟨p, c, rfl, h2⟩ := h
 exact ⟨⟨e, p, c, hd⟩, rfl, rfl, ⟨p, c, rfl, h2⟩⟩
/-- a row of entries that is read out of blocks of N -/
structure ReT (W : World) (N : Nat → Prop) (p : Option Addr) (n : Nat) (L : List Tx) : Prop where
 gs : Gs encTn W p n L
 row : n ≠ 0 → ∀ b off, p = some ⟨b, off, none⟩ → N b
 is : ∀ x ∈ L, Is W x.s x.e.ins
 bl : ∀ x ∈ L, x.e.ins ≠ [] → ∀ b, x.s.ownBlock = some b → N b
 dk : ∀ x ∈ L, dok x.e.dg
 lt : ∀ b, N b → b < W.heap.size
theorem ReT.hold {W W' : World} {N : Nat → Prop} {p : Option Addr} {n : Nat} {L : List Tx} (h : ReT W N p n L) (hk : ∀ b, N b → W'.heap[b]? = W.heap[b]?) (hs : W.heap.size ≤ W'.heap.size) : ReT W' N p n L :=
 ⟨h.gs.hold fun hn b off hp => hk b (h.row hn b off hp), h.row, fun x hx => (h.is x hx).hold fun hL b hb => hk b (h.bl x hx hL b hb), h.bl, h.dk, fun b hb => Nat.lt_of_lt_of_le (h.lt b hb) hs⟩
theorem ReT.later {W W' : World} {N : Nat → Prop} {p : Option Addr} {n : Nat} {L : List Tx} (h : ReT W N p n L) (hb : Below W.heap.size W W') : ReT W' N p n L :=
 h.hold (fun b hN => hb.block b (h.lt b hN)) hb.size
/-- a row that a call answers: of entries that were there, or whose rows of segments are its own -/
theorem ReT.next {w w' : World} {N : Nat → Prop} {p q : Option Addr} {n m : Nat} {L o : List Tx} (h : ReT w N p n L) (hb : Below w.heap.size w w') (hg : Gs encTn w' q m o) (hq : m ≠ 0 → ∀ b off, q = some ⟨b, off, none⟩ → N b ∨ w.heap.size ≤ b)
 (ho : ∀ x ∈ o, x ∈ L ∨ dok x.e.dg ∧ Gw encI w' w.heap.size x.s x.e.ins) : ReT w' (fun b => N b ∨ (w.heap.size ≤ b ∧ b < w'.heap.size)) q m o := by
 refine ⟨hg, fun hn b off hp => ?_, fun x hx => ?_, fun x hx hL b hb2 => ?_, fun x hx => ?_, fun b hb2 => ?_⟩
 ·rcases hq hn b off hp with h1 | h1
  ·exact Or.inl h1
  ·subst hp
   exact Or.inr ⟨h1, hg.block_lt (by omega)⟩
 ·rcases ho x hx with h1 | ⟨_, h1⟩
  ·exact (h.is x h1).later hb
  ·exact h1.is
 ·rcases ho x hx with h1 | ⟨_, h1⟩
  ·exact Or.inl (h.bl x h1 hL b hb2)
  ·refine Or.inr ⟨?_, h1.is.lt hL hb2⟩
   obtain ⟨hl, h3⟩ := h1
   rcases h3 with ⟨h4, h0⟩ | ⟨g, cap, cur, h4, hB2, _⟩
   ·rw [h4] at hb2; cases hb2
   ·rw [h4] at hb2
    simp only [Value.ownBlock, Option.some.injEq] at hb2
    omega
 ·rcases ho x hx with h1 | ⟨h1, _⟩
  ·exact h.dk x h1
  ·exact h1
 ·rcases hb2 with h1 | h1
  ·exact Nat.lt_of_lt_of_le (h.lt b h1) hb.size
  ·exact h1.2
theorem ReT.mono {W : World} {N M : Nat → Prop} {p : Option Addr} {n : Nat} {L : List Tx} (h : ReT W N p n L) (hs : ∀ b, N b → M b) (hl : ∀ b, M b → b < W.heap.size) : ReT W M p n L :=
 ⟨h.gs, fun hn b off hp => hs b (h.row hn b off hp), h.is, fun x hx hL b hb => hs b (h.bl x hx hL b hb), h.dk, hl⟩
/-- '[]Entry{x}', at one operation -/
theorem wp_build_en {o : Oper} {a : Act} {w : World} {K : Act → World → Prop} {Q : Exit → Act → World → Prop} (t : TypeId) (x : Nat) (ho : o.op = .buildSlice t 1 #[(0, .tmp x)])
 (hu : Tryz.prog.underlying t = some (.slice 59)) (q : Ex) (hx : a.eval (.tmp x) = .agg (enC q.e q.s))
 (h : K (a.put o.dst (.slice (some ⟨w.heap.size, 0, none⟩) 1 1)) (w.alloc (.cells (enC q.e q.s) 59))) : o.wp Tryz.prog a w K Q := by
 obtain ⟨i, hi, hzz⟩ := Option.map_eq_some_iff.1 infoEn
 simp only [Prod.mk.injEq] at hzz
 obtain ⟨hz, hsz, _⟩ := hzz
 have hsz' : i.size = 38 := hsz
 refine wp_buildSlice t 59 1 _ ho (enC q.e q.s) i _ hu hi hz (by rw [hsz']; decide) (by rw [hsz']; decide) ?_ h
 rw [hsz']
 have hf := Great.fill_whole (s := 38) (by decide) [.agg (enC q.e q.s)] ((Array.range (1 * 38)).map (ezero.cells[· % ezero.cells.size]!)) (by
  intro v hv
  rw [List.mem_singleton] at hv
  subst hv
  exact enC_size q.e q.s q.hd) (by simp)
 have e : (#[(0, Operand.tmp x)].map fun (p : Nat × Operand) => (p.1, a.eval p.2)).toList = [((0 : Nat), Value.agg (enC q.e q.s))] := by
  simp [hx]
 rw [e]
 refine (Eq.trans ?_ hf).trans ?_
 ·rfl
 ·simp [Value.cells]
theorem wpList_build_en {ops : Array Oper} {rest : List Oper} {o : Oper} {a : Act} {w : World} {Q : Exit → Act → World → Prop} (hg : o.guard = none) (t : TypeId) (x : Nat) (ho : o.op = .buildSlice t 1 #[(0, .tmp x)])
 (hu : Tryz.prog.underlying t = some (.slice 59)) (q : Ex) (hx : a.eval (.tmp x) = .agg (enC q.e q.s))
 (h : wpList Tryz.prog ops Q rest (a.put o.dst (.slice (some ⟨w.heap.size, 0, none⟩) 1 1)) (w.alloc (.cells (enC q.e q.s) 59))) : wpList Tryz.prog ops Q (o :: rest) a w :=
 wpList_plain hg fun _ hK => wp_build_en t x ho hu q hx (hK _ _ h)
theorem Gs.oneEn (w : World) (q : Ex) : Gs encEn (w.alloc (.cells (enC q.e q.s) 59)) (some ⟨w.heap.size, 0, none⟩) 1 [q] := Gs.one encEn w q _ (by rw [q.fC]) _ _
theorem below_app {w W V : World} {B : Nat} {v : Value} {o : List Ex} (hb : Below w.heap.size w W) (hg : Gw encEn W B v o) (hB : w.heap.size ≤ B) (h : W.grownBy V v.ownBlock) : Below w.heap.size w V :=
 below_new_gw hb (hg.mono hB) h hb.size
theorem built_dg1 : Tryz.prog.built 35 [(0, .int .u8 1)] = some (bcs lvS) := by kernel_rfl
def cutEn (l : List Pe) (d : List Int) : List Pe := l.filter fun e => decide (e.dg ≠ d)
def wgC (e : Pe) : Int := if e.k ≠ 5 then 1 else 0
def wgZ (e : Pe) : Int := if e.k ≠ 5 then e.z else 0
def sumQ (f : Pe → Int) (l : List Pe) : Int := (l.map f).sum
theorem sumQ_cons (f : Pe → Int) (x : Pe) (l : List Pe) : sumQ f (x :: l) = f x + sumQ f l := by simp [sumQ]
theorem sumQ_append (f : Pe → Int) (l m : List Pe) : sumQ f (l ++ m) = sumQ f l + sumQ f m := by simp [sumQ]
theorem cntE_sum (l : List Pe) : (cntE l : Int) = sumQ wgC l := by
 unfold cntE
 induction l with
 | nil => rfl
 | cons x l ih =>
   rw [sumQ_cons, ← ih, List.filter_cons, wgC]
   by_cases h : x.k ≠ 5
   ·rw [if_pos (by simpa using h), if_pos h, List.length_cons]; omega
   ·rw [if_neg (by simpa using h), if_neg h]; omega
theorem sumE_sum (l : List Pe) : sumE l = sumQ wgZ l := by
 unfold sumE
 induction l with
 | nil => rfl
 | cons x l ih =>
   rw [sumQ_cons, ← ih, List.filter_cons, wgZ]
   by_cases h : x.k ≠ 5
   ·rw [if_pos (by simpa using h), if_pos h, List.map_cons, List.sum_cons]
   ·rw [if_neg (by simpa using h), if_neg h, Int.zero_add]
theorem sumQ_setB (f : Pe → Int) (e : Pe) : ∀ (l : List Pe) (t : Bool), sumQ f (setB e l t) = sumQ f (cutEn l e.dg) + if t then 0 else f e
 | [], t => by cases t <;> simp [setB, cutEn, sumQ]
 | x :: M, t => by
   have ih := sumQ_setB f e M (t || !dlt x.dg e.dg)
   simp only [setB, cutEn, sumQ_append, List.filter_cons] at ih ⊢
   rw [ih]
   by_cases h1 : x.dg = e.dg
   ·rw [if_pos h1, h1, dlt_self]
    cases t <;> simp [sumQ] <;> omega
   ·rw [if_neg h1]
    cases h2 : dlt x.dg e.dg <;> cases t <;> simp [sumQ, h1] <;> omega
theorem sumQ_setE (f : Pe → Int) (l : List Pe) (e : Pe) : sumQ f (setE l e) = sumQ f (cutEn l e.dg) + f e := by
 unfold setE
 rw [sumQ_setB]
 simp
theorem cutEn_none {l : List Pe} {d : List Int} (h : ∀ x ∈ l, x.dg ≠ d) : cutEn l d = l := List.filter_eq_self.2 fun x hx => by simpa using h x hx
theorem mem_cutEn {l : List Pe} {d : List Int} {x : Pe} : x ∈ cutEn l d ↔ x ∈ l ∧ x.dg ≠ d := by
 unfold cutEn
 rw [List.mem_filter]
 simp
theorem cutEn_row {l : List Pe} (h : rowE l) (d : List Int) : rowE (cutEn l d) := List.Pairwise.filter _ h
def oW (f : Pe → Int) (o : Option Pe) : Int := match o with
 | some x => f x
 | none => 0
theorem sumQ_cut (f : Pe → Int) {l : List Pe} (hr : rowE l) (d : List Int) : sumQ f l = sumQ f (cutEn l d) + oW f (getE l d) := by
 induction l with
 | nil => rfl
 | cons x M ih =>
   obtain ⟨h1, h2⟩ := List.pairwise_cons.1 hr
   unfold getE
   by_cases h : x.dg = d
   ·have hn : cutEn (x :: M) d = M := by
     unfold cutEn
     rw [List.filter_cons, if_neg (by simpa using h)]
     exact cutEn_none fun y hy e => by have h3 := h1 y hy; rw [e, h, dlt_self] at h3; cases h3
    rw [if_pos h, hn, sumQ_cons]
    show f x + sumQ f M = sumQ f M + f x
    omega
   ·have hn : cutEn (x :: M) d = x :: cutEn M d := by
     unfold cutEn
     rw [List.filter_cons, if_pos (by simpa using h)]
    rw [if_neg h, hn, sumQ_cons, sumQ_cons, ih h2]
    omega
/-- the pairs of a table are the entries of a rising row -/
structure IxP (T : List (Tg.Pg Ex)) (L : List Pe) : Prop where
 row : rowE L
 mem : ∀ e, e ∈ L ↔ ∃ x ∈ T, x.v.e = e
 dg : ∀ x ∈ T, x.v.e.dg = x.dg
theorem IxP.nil : IxP [] [] := ⟨List.Pairwise.nil, fun e => by simp, fun x h => by cases h⟩
theorem IxP.get {T : List (Tg.Pg Ex)} {L : List Pe} (h : IxP T L) (hu : Tg.Uniq T) (d : List Int) : (Tg.getN T d).map (·.e) = getE L d := by
 cases h1 : Tg.getN T d with
 | none =>
   refine (getE_none.2 fun e he => ?_).symm
   obtain ⟨x, hx, rfl⟩ := (h.mem e).1 he
   rw [h.dg x hx]
   exact Tg.getN_none.1 h1 x hx
 | some v =>
   have h2 := Tg.getN_some h1
   have h3 : v.e ∈ L := (h.mem _).2 ⟨_, h2, rfl⟩
   have h4 := h.dg _ h2
   have h5 := getE_is h.row h3
   rw [h4] at h5
   rw [h5]
   rfl
theorem IxP.put {T : List (Tg.Pg Ex)} {L : List Pe} (h : IxP T L) (hd : dgsOk L) (x : Ex) : IxP (Tg.putN T x.e.dg x) (setE L x.e) := by
 refine ⟨setE_row x.hd h.row hd, fun e => ?_, fun y hy => ?_⟩
 ·rw [mem_setE]
  constructor
  ·rintro (rfl | ⟨h1, h2⟩)
   ·exact ⟨⟨x.e.dg, x⟩, List.mem_append_right _ (List.mem_singleton.2 rfl), rfl⟩
   ·obtain ⟨y, hy, rfl⟩ := (h.mem e).1 h1
    exact ⟨y, List.mem_append_left _ (Tg.cutN_mem.2 ⟨hy, by rw [← h.dg y hy]; exact h2⟩), rfl⟩
  ·rintro ⟨y, hy, rfl⟩
   rcases List.mem_append.1 hy with h1 | h1
   ·obtain ⟨h2, h3⟩ := Tg.cutN_mem.1 h1
    exact Or.inr ⟨(h.mem _).2 ⟨y, h2, rfl⟩, by rw [h.dg y h2]; exact h3⟩
   ·rw [List.mem_singleton] at h1
    subst h1
    exact Or.inl rfl
 ·rcases List.mem_append.1 hy with h1 | h1
  ·exact h.dg y (Tg.cutN_mem.1 h1).1
  ·rw [List.mem_singleton] at h1
   subst h1
   rfl
theorem IxP.cut {T : List (Tg.Pg Ex)} {L : List Pe} (h : IxP T L) (d : List Int) : IxP (Tg.cutN T d) (cutEn L d) := by
 refine ⟨cutEn_row h.row d, fun e => ?_, fun y hy => h.dg y (Tg.cutN_mem.1 hy).1⟩
 rw [mem_cutEn]
 constructor
 ·rintro ⟨h1, h2⟩
  obtain ⟨y, hy, rfl⟩ := (h.mem e).1 h1
  exact ⟨y, Tg.cutN_mem.2 ⟨hy, by rw [← h.dg y hy]; exact h2⟩, rfl⟩
 ·rintro ⟨y, hy, rfl⟩
  obtain ⟨h2, h3⟩ := Tg.cutN_mem.1 hy
  exact ⟨(h.mem _).2 ⟨y, h2, rfl⟩, by rw [h.dg y h2]; exact h3⟩
theorem nodup_lenI {α β : Type} [DecidableEq β] (f : α → β) : ∀ (A B : List β), A.Nodup → (∀ x, x ∈ A → x ∈ B) → A.length ≤ B.length
 | [], B, _, _ => Nat.zero_le _
 | a :: A, B, hn, hs => by
   obtain ⟨h1, h2⟩ := List.nodup_cons.1 hn
   have ha := hs a List.mem_cons_self
   have h3 := nodup_lenI f A (B.erase a) h2 fun x hx => by
    have hne : x ≠ a := fun e => h1 (e ▸ hx)
    exact (List.mem_erase_of_ne hne).2 (hs x (List.mem_cons_of_mem _ hx))
   rw [List.length_erase_of_mem ha] at h3
   have h4 := List.length_pos_of_mem ha
   rw [List.length_cons]
   omega
theorem rowE_nodup {L : List Pe} (h : rowE L) : (L.map (·.dg)).Nodup := by
 induction L with
 | nil => exact List.nodup_nil
 | cons x M ih =>
   obtain ⟨h1, h2⟩ := List.pairwise_cons.1 h
   rw [List.map_cons, List.nodup_cons]
   refine ⟨fun hm => ?_, ih h2⟩
   obtain ⟨y, hy, e⟩ := List.mem_map.1 hm
   have h3 := h1 y hy
   rw [e, dlt_self] at h3
   cases h3
theorem IxP.keys {T : List (Tg.Pg Ex)} {L : List Pe} (h : IxP T L) (d : List Int) : d ∈ Tg.keysN T ↔ d ∈ L.map (·.dg) := by
 unfold Tg.keysN
 rw [List.mem_map, List.mem_map]
 constructor
 ·rintro ⟨x, hx, rfl⟩
  exact ⟨x.v.e, (h.mem _).2 ⟨x, hx, rfl⟩, h.dg x hx⟩
 ·rintro ⟨e, he, rfl⟩
  obtain ⟨x, hx, rfl⟩ := (h.mem e).1 he
  exact ⟨x, hx, (h.dg x hx).symm⟩
theorem IxP.length {T : List (Tg.Pg Ex)} {L : List Pe} (h : IxP T L) (hu : Tg.Uniq T) : T.length = L.length := by
 have h1 := nodup_lenI (id : List Int → List Int) _ _ hu (fun x hx => (h.keys x).1 hx)
 have h2 := nodup_lenI (id : List Int → List Int) _ _ (rowE_nodup h.row) (fun x hx => (h.keys x).2 hx)
 unfold Tg.keysN at h1 h2
 rw [List.length_map, List.length_map] at h1 h2
 omega
theorem drises_map {L : List Pe} (h : rowE L) : drises (L.map (·.dg)) := by
 induction L with
 | nil => trivial
 | cons x M ih =>
   obtain ⟨h1, h2⟩ := List.pairwise_cons.1 h
   refine ⟨fun y hy => ?_, ih h2⟩
   obtain ⟨z, hz, rfl⟩ := List.mem_map.1 hy
   exact h1 z hz
theorem IxP.drow {T : List (Tg.Pg Ex)} {L : List Pe} (h : IxP T L) (hd : ∀ x ∈ T, x.dg.length = 32) : Go.Proofs.YtpfbfhigelbfcaaGreat.drow (Tg.keysN T) = L.map (·.dg) :=
 (drow_is (n := 32) (fun x hx => by obtain ⟨y, hy, rfl⟩ := List.mem_map.1 hx; exact hd y hy) (drises_map h.row) fun x => (h.keys x).symm).symm
theorem setE_mid {A B : List Pe} {x y : Pe} (h : rowE (A ++ x :: B)) (hd : dgsOk (A ++ x :: B)) (hy : y.dg = x.dg) : setE (A ++ x :: B) y = A ++ y :: B := by
 have hx := hd x (List.mem_append_right _ List.mem_cons_self)
 obtain ⟨h1, h2, h3⟩ := List.pairwise_append.1 h
 obtain ⟨h4, h5⟩ := List.pairwise_cons.1 h2
 have hA : ∀ a ∈ A, a.dg ≠ x.dg := fun a ha e => by have h6 := h3 a ha x List.mem_cons_self; rw [e, dlt_self] at h6; cases h6
 have hB : ∀ a ∈ B, a.dg ≠ x.dg := fun a ha e => by have h6 := h4 a ha; rw [e, dlt_self] at h6; cases h6
 refine rowE_ext (setE_row (by rw [hy]; exact hx) h hd) ?_ fun z => ?_
 ·refine List.pairwise_append.2 ⟨h1, List.pairwise_cons.2 ⟨fun b hb => by rw [hy]; exact h4 b hb, h5⟩, fun a ha b hb => ?_⟩
  rcases List.mem_cons.1 hb with rfl | hb
  ·rw [hy]; exact h3 a ha x List.mem_cons_self
  ·exact h3 a ha b (List.mem_cons_of_mem _ hb)
 ·rw [mem_setE, List.mem_append, List.mem_append, List.mem_cons, List.mem_cons, hy]
  constructor
  ·rintro (h | ⟨h | h | h, hn⟩)
   ·exact Or.inr (Or.inl h)
   ·exact Or.inl h
   ·subst h; exact absurd rfl hn
   ·exact Or.inr (Or.inr h)
  ·rintro (h | h | h)
   ·exact Or.inr ⟨Or.inl h, hA z h⟩
   ·exact Or.inl h
   ·exact Or.inr ⟨Or.inr (Or.inr h), hB z h⟩
theorem cutEn_mid {A B : List Pe} {x : Pe} (h : rowE (A ++ x :: B)) : cutEn (A ++ x :: B) x.dg = A ++ B := by
 obtain ⟨h1, h2, h3⟩ := List.pairwise_append.1 h
 obtain ⟨h4, h5⟩ := List.pairwise_cons.1 h2
 have hA : ∀ a ∈ A, a.dg ≠ x.dg := fun a ha e => by have h6 := h3 a ha x List.mem_cons_self; rw [e, dlt_self] at h6; cases h6
 have hB : ∀ a ∈ B, a.dg ≠ x.dg := fun a ha e => by have h6 := h4 a ha; rw [e, dlt_self] at h6; cases h6
 have e1 := cutEn_none hA
 have e2 := cutEn_none hB
 unfold cutEn at *
 rw [List.filter_append, List.filter_cons, e1, e2, if_neg (by simp)]
/-- Keep, an entry at a time -/
theorem keepR_append (A B : List Pe) (b : List Int) : keepR (A ++ B) b = keepR A b ++ keepR B b := by unfold keepR; rw [List.flatMap_append]
theorem rowE_mix {A B : List Pe} {b : List Int} (h : rowE (A ++ B)) : rowE (keepR A b ++ B) := by
 obtain ⟨h1, h2, h3⟩ := List.pairwise_append.1 h
 refine List.pairwise_append.2 ⟨keepR_row h1 b, h2, fun x hx y hy => ?_⟩
 obtain ⟨z, hz, h4, rfl⟩ := mem_keepR.1 hx
 rw [keepE_dg h4]
 exact h3 z hz y hy
theorem dgs_mix {A B : List Pe} {b : List Int} (h : dgsOk (A ++ B)) : dgsOk (keepR A b ++ B) := fun x hx => by
 rcases List.mem_append.1 hx with h1 | h1
 ·exact keepR_dgs (fun y hy => h y (List.mem_append_left _ hy)) b x h1
 ·exact h x (List.mem_append_right _ h1)
theorem keep_set {L : List Pe} {k : Nat} {x : Pe} {b : List Int} (hr : rowE L) (hd : dgsOk L) (hx : L[k]? = some x) (h : (keepE x b).2 = true) : setE (keepR (L.take k) b ++ L.drop k) (keepE x b).1 = keepR (L.take (k + 1)) b ++ L.drop (k + 1) := by
 obtain ⟨hk, e⟩ := List.getElem?_eq_some_iff.1 hx
 have e1 : L.drop k = x :: L.drop (k + 1) := by rw [List.drop_eq_getElem_cons hk, e]
 have e2 : L.take (k + 1) = L.take k ++ [x] := by rw [List.take_succ_eq_append_getElem hk, e]
 have h1 : rowE (L.take k ++ L.drop k) := by rw [List.take_append_drop]; exact hr
 have h2 : dgsOk (L.take k ++ L.drop k) := by rw [List.take_append_drop]; exact hd
 have h3 := rowE_mix (b := b) h1
 have h4 := dgs_mix (b := b) h2
 rw [e1] at h3 h4 ⊢
 rw [setE_mid h3 h4 (keepE_dg h), e2, keepR_append, keepR_cons, if_pos h]
 simp [keepR]
theorem keep_cut {L : List Pe} {k : Nat} {x : Pe} {b : List Int} (hr : rowE L) (hx : L[k]? = some x) (h : (keepE x b).2 = false) : cutEn (keepR (L.take k) b ++ L.drop k) x.dg = keepR (L.take (k + 1)) b ++ L.drop (k + 1) := by
 obtain ⟨hk, e⟩ := List.getElem?_eq_some_iff.1 hx
 have e1 : L.drop k = x :: L.drop (k + 1) := by rw [List.drop_eq_getElem_cons hk, e]
 have e2 : L.take (k + 1) = L.take k ++ [x] := by rw [List.take_succ_eq_append_getElem hk, e]
 have h1 : rowE (L.take k ++ L.drop k) := by rw [List.take_append_drop]; exact hr
 have h3 := rowE_mix (b := b) h1
 rw [e1] at h3 ⊢
 rw [cutEn_mid h3, e2, keepR_append, keepR_cons, h]
 simp [keepR]
theorem keep_get {L : List Pe} {k : Nat} {x : Pe} {b : List Int} (hr : rowE L) (hx : L[k]? = some x) : getE (keepR (L.take k) b ++ L.drop k) x.dg = some x := by
 obtain ⟨hk, e⟩ := List.getElem?_eq_some_iff.1 hx
 have e1 : L.drop k = x :: L.drop (k + 1) := by rw [List.drop_eq_getElem_cons hk, e]
 have h1 : rowE (L.take k ++ L.drop k) := by rw [List.take_append_drop]; exact hr
 exact getE_is (rowE_mix (b := b) h1) (List.mem_append_right _ (by rw [e1]; exact List.mem_cons_self))
theorem wrap_add2 (a b : Int) : IntKind.i64.wrap (IntKind.i64.wrap a + IntKind.i64.wrap b) = IntKind.i64.wrap (a + b) := by
 rw [IntKind.wrap_i64, IntKind.wrap_i64, IntKind.wrap_i64, IntKind.wrap_i64]
 omega
/-- an entry in a block of its own -/
structure Tp where
 b : Nat
 x : Tx
def encTp : Ec Tp where
 f := fun q => [.pointer (some ⟨q.b, 0, none⟩)]
 k := 1
 t := 142
 d := ⟨0, encTn.d⟩
 len := fun _ => rfl
 one := fun q v hv => by rw [List.mem_singleton] at hv; subst hv; rfl
 pos := by decide
theorem infoTp : (Tryz.prog.info? encTp.t).map (fun i => (i.zero, i.size, i.bytes)) = some (some (.pointer none), encTp.k, 8) := by kernel_rfl
def ptP (L : List Tp) : List Pt := L.map (·.x.e)
theorem ptP_length (L : List Tp) : (ptP L).length = L.length := List.length_map _
theorem ptP_append (L M : List Tp) : ptP (L ++ M) = ptP L ++ ptP M := List.map_append
theorem ptP_get {L : List Tp} {j : Nat} {q : Tp} (h : L[j]? = some q) : (ptP L)[j]? = some q.x.e := by unfold ptP; rw [List.getElem?_map, h]; rfl
theorem ptP_take (L : List Tp) (j : Nat) : ptP (L.take j) = (ptP L).take j := List.map_take
theorem ptP_drop (L : List Tp) (j : Nat) : ptP (L.drop j) = (ptP L).drop j := List.map_drop
theorem Gs.tp {W : World} {p : Option Addr} {n : Nat} {L : List Tp} (h : Gs encTp W p n L) (j : Nat) (hj : j < n) : ∃ b off q, p = some ⟨b, off, none⟩ ∧ L[j]? = some q ∧ q ∈ L ∧ W.cell? ⟨b, off + j, none⟩ = some (.pointer (some ⟨q.b, 0, none⟩)) := by
 obtain ⟨b, off, hp, hc⟩ := h.ptr j hj
 have hl := h.len
 have hx : L[j]? = some (L[j]'(by omega)) := List.getElem?_eq_getElem _
 have e : L.getD j encTp.d = L[j]'(by omega) := by rw [List.getD_eq_getElem?_getD, hx]; rfl
 rw [e] at hc
 refine ⟨b, off, _, hp, hx, List.getElem_mem _, ?_⟩
 have h0 := hc 0 _ rfl
 rw [show off + j * encTp.k + 0 = off + j by show off + j * 1 + 0 = _; omega] at h0
 exact h0
theorem Gw.holdP {α : Type} {E : Ec α} {W V : World} {B : Nat} {v : Value} {L : List α} (h : Gw E W B v L) (hk : ∀ b, v.ownBlock = some b → V.heap[b]? = W.heap[b]?) : Gw E V B v L := by
 obtain ⟨hl, h2⟩ := h
 refine ⟨hl, ?_⟩
 rcases h2 with h2 | ⟨g, cap, cur, hv, hB, hg, r⟩
 ·exact Or.inl h2
 ·exact Or.inr ⟨g, cap, cur, hv, hB, by rw [hk g (by rw [hv]; rfl)]; exact hg, r⟩
theorem Gw.ownlt {α : Type} {E : Ec α} {W : World} {B : Nat} {v : Value} {L : List α} (h : Gw E W B v L) {b : Nat} (hb : v.ownBlock = some b) : B ≤ b ∧ b < W.heap.size := World.ownsRow.lt h b hb
/-- a pointer of an own row is set -/
theorem Gw.setTp {W : World} {B g n c : Nat} {L : List Tp} (h : Gw encTp W B (.slice (some ⟨g, 0, none⟩) n c) L) {j : Nat} (hj : j < n) (q : Tp) :
 Gw encTp (W.setCell ⟨g, j, none⟩ (.pointer (some ⟨q.b, 0, none⟩))) B (.slice (some ⟨g, 0, none⟩) n c) (L.take j ++ q :: L.drop (j + 1)) := by
 obtain ⟨hn, hB, hnc, hcm, cur, hg, hs, ht⟩ := h.block
 have hflat : ∀ M : List Tp, encTp.flat M = M.map fun q => Value.pointer (some ⟨q.b, 0, none⟩) := fun M => by
  induction M with
  | nil => rfl
  | cons x M ih => rw [Ec.flat, ih]; rfl
 have h1 : encTp.k = 1 := rfl
 rw [h1, Nat.mul_one] at ht hs
 rw [hflat] at ht
 have hl : (L.take j ++ q :: L.drop (j + 1)).length = n := by rw [List.length_append, List.length_take, List.length_cons, List.length_drop]; omega
 have hh := heap_setCell_same W g j _ _ (.pointer (some ⟨q.b, 0, none⟩)) hg
 have := Gw.mk (E := encTp) (L := L.take j ++ q :: L.drop (j + 1)) (c := c) hB (by rw [hl]; exact hnc) hcm hh (by rw [Array.size_setIfInBounds, hs, h1, Nat.mul_one]) ?_
 ·rw [hl] at this
  exact this
 ·rw [hl, h1, Nat.mul_one, hflat, Array.toList_setIfInBounds]
  rw [List.take_set, ht, List.map_append, List.map_cons, List.map_take, List.map_drop]
  have hjl : j < (L.map fun q => Value.pointer (some ⟨q.b, 0, none⟩)).length := by rw [List.length_map]; omega
  rw [List.set_eq_take_append_cons_drop, if_pos hjl]
/-- 'append' of a full slice: what it answers is new -/
theorem wp_append_full {α : Type} {P : Program} (E : Ec α) {w : World} {o : Oper} {a : Act} {K : Act → World → Prop} {Q : Exit → Act → World → Prop} (s x : Operand) (t : TypeId)
 (ho : o.op = .call { callee := .builtin .append, args := #[s, x], argTypes := #[t, t] }) (ht : P.underlying t = some (.slice E.t))
 (z : Value) (by_ : Nat) (hinfo : (P.info? E.t).map (fun i => (i.zero, i.size, i.bytes)) = some (some z, E.k, by_)) (hzs : z.cells.size = E.k) (hby : by_ ≤ 4096)
 (b off n : Nat) (L : List α) (hs : a.eval s = .slice (some ⟨b, off, none⟩) n n) (hob : Gs E w (some ⟨b, off, none⟩) n L) (b2 off2 m c : Nat) (M : List α) (hx : a.eval x = .slice (some ⟨b2, off2, none⟩) m c) (hbs : Gs E w (some ⟨b2, off2, none⟩) m M) (hm : 0 < m)
 (hbytes : n + m ≤ 2097216)
 (h : ∀ v' w', Gw E w' w.heap.size v' (L ++ M) → Below w.heap.size w w' → K (a.put o.dst v') w') : o.wp P a w K Q := by
 obtain ⟨i, hi, hzz⟩ := Option.map_eq_some_iff.1 hinfo
 simp only [Prod.mk.injEq] at hzz
 obtain ⟨hz, hsz, hb⟩ := hzz
 have hcells : ∀ (b off n : Nat) (L : List α), Gs E w (some ⟨b, off, none⟩) n L → ∀ j u, (E.flat L)[j]? = some u → w.cell? ((⟨b, off, none⟩ : Addr).add j) = some u := by
  intro b off n L hL j u hu
  have hj : j < n * E.k := by
   have := (List.getElem?_eq_some_iff.1 hu).1
   rw [E.flat_length, hL.1] at this
   exact this
  rcases hL.2 with h0 | ⟨b', off', hp, hc⟩
  ·rw [h0] at hj; omega
  ·simp only [Option.some.injEq, Addr.mk.injEq, and_true] at hp
   obtain ⟨rfl, rfl⟩ := hp
   have hd : j / E.k < n := Nat.div_lt_of_lt_mul (by rw [Nat.mul_comm]; exact hj)
   have hm2 : j % E.k < E.k := Nat.mod_lt _ E.pos
   have e0 : j / E.k * E.k + j % E.k = j := by rw [Nat.mul_comm]; exact Nat.div_add_mod j E.k
   have hu' := hu
   rw [← e0, E.flat_get L _ _ (by rw [hL.1]; exact hd) hm2] at hu'
   have := hc _ hd _ u hu'
   rw [Nat.add_assoc, e0] at this
   rw [WideShapes.add_plain]
   exact this
 have hbb : (n + m) * by_ ≤ 140737488355328 := Nat.le_trans (Nat.mul_le_mul hbytes hby) (by decide)
 have hrun := run_append_grow (P := P) w t o.type E.t i z ht hi hz ⟨b, off, none⟩ n n (E.flat L) (by rw [E.flat_length, hob.1, hsz]) (hcells b off n L hob) ⟨b2, off2, none⟩ m c (E.flat M) (by rw [E.flat_length, hbs.1, hsz]) (hcells b2 off2 m M hbs)
  (by omega) (by omega) (growslice_fits (by omega) (by rw [hb]; exact hbb))
 have hcap := grownCap_ge w (n + m) n E.t
 have hlm : (L ++ M).length = n + m := by rw [List.length_append, hob.1, hbs.1]
 have hgw : Gw E (w.drew.alloc (.cells ((E.flat L).toArray ++ (E.flat M).toArray ++ Builtin.zeroCells z.cells (grownCap w (n + m) n E.t - (n + m))) E.t)) w.heap.size (.slice (some ⟨w.heap.size, 0, none⟩) (n + m) (grownCap w (n + m) n E.t)) (L ++ M) := by
  have h1 := Gw.mk (E := E) (L := L ++ M) (B := w.heap.size) (c := grownCap w (n + m) n E.t) (Nat.le_refl _) (by rw [hlm]; exact hcap) (grownCap_le_maxLen w (n + m) n E.t (by unfold maxLen; omega))
   (heap_alloc_new w.drew (.cells ((E.flat L).toArray ++ (E.flat M).toArray ++ Builtin.zeroCells z.cells (grownCap w (n + m) n E.t - (n + m))) E.t)) ?_ ?_
  ·rw [hlm] at h1
   exact h1
  ·simp only [Array.size_append, List.size_toArray, size_zeroCells, hzs, E.flat_length, hob.1, hbs.1, ← Nat.add_mul]
   congr 1
   omega
  ·have h2 : (E.flat (L ++ M)).length = (L ++ M).length * E.k := E.flat_length _
   rw [← h2]
   simp only [Array.toList_append]
   rw [← E.flat_append]
   exact List.take_left
 unfold Oper.wp execOp
 simp only [ho, resolve, invoke, builtin, Sem.run_bind, Sem.run_pure, Result.andThen_ok, List.map_toArray, List.map_cons, List.map_nil, hs, hx, hrun]
 exact h _ _ hgw (((Below.refl _ w).drew).alloc (Nat.le_refl _) _)
/-- block bT holds a table: its row of entries, and how many exist -/
def Th (W : World) (bT : Nat) (v : Value) (n : Int) : Prop := W.heap[bT]? = some (.cells #[v, .int .i64 n] 130 (0, 0))
theorem Th.cells {W : World} {bT : Nat} {v : Value} {n : Int} (h : Th W bT v n) : W.cell? ⟨bT, 0, none⟩ = some v ∧ W.cell? ⟨bT, 1, none⟩ = some (.int .i64 n) :=
 ⟨cell_of_row _ _ 0 _ _ _ h, cell_of_row _ _ 1 _ _ _ h⟩
theorem Th.frozen {W : World} {bT : Nat} {v : Value} {n : Int} (h : Th W bT v n) (j : Nat) : W.frozen? ⟨bT, j, none⟩ = false := frozen_of_row W bT j _ _ h
theorem Th.setV {W : World} {bT : Nat} {v : Value} {n : Int} (h : Th W bT v n) (v' : Value) : Th (W.setCell ⟨bT, 0, none⟩ v') bT v' n := heap_setCell_same W bT 0 _ _ _ h
theorem Th.setN {W : World} {bT : Nat} {v : Value} {n : Int} (h : Th W bT v n) (n' : Int) : Th (W.setCell ⟨bT, 1, none⟩ (.int .i64 n')) bT v n' := heap_setCell_same W bT 1 _ _ _ h
theorem Th.lt {W : World} {bT : Nat} {v : Value} {n : Int} (h : Th W bT v n) : bT < W.heap.size := (Array.getElem?_eq_some_iff.1 h).1
/-- entries in blocks of F, with rows of segments of F -/
structure En (W : World) (F : Nat → Prop) (q : Tp) : Prop where
 tn : Tn W q.b q.x.e q.x.s
 f : F q.b
 is : Is W q.x.s q.x.e.ins
 bl : q.x.e.ins ≠ [] → ∀ k, q.x.s.ownBlock = some k → F k
 dk : dok q.x.e.dg
theorem En.keep {W V : World} {F : Nat → Prop} {q : Tp} (h : En W F q) (hk : ∀ k, F k → V.heap[k]? = W.heap[k]?) : En V F q :=
 ⟨Mx.keep h.tn (hk q.b h.f), h.f, h.is.hold fun hne k hb => hk k (h.bl hne k hb), h.bl, h.dk⟩
theorem En.mono {W : World} {F G : Nat → Prop} {q : Tp} (h : En W F q) (hs : ∀ k, F k → G k) : En W G q := ⟨h.tn, hs _ h.f, h.is, fun hne k hb => hs k (h.bl hne k hb), h.dk⟩
/-- a table whose header tells n -/
structure Tc (W : World) (bT : Nat) (F : Nat → Prop) (v : Value) (L : List Tp) (n : Int) : Prop where
 hd : Th W bT v n
 row : Gw encTp W 0 v L
 ne : ∀ k, v.ownBlock = some k → k ≠ bT
 en : ∀ q ∈ L, En W F q
 lt : ∀ k, F k → k < W.heap.size
 dis : ∀ k, F k → v.ownBlock ≠ some k ∧ k ≠ bT
section
variable {W V : World} {bT : Nat} {F : Nat → Prop} {v : Value} {L : List Tp} {n : Int}
theorem Tc.keep (h : Tc W bT F v L n) (hk : ∀ k, k = bT ∨ v.ownBlock = some k ∨ F k → V.heap[k]? = W.heap[k]?) (hs : W.heap.size ≤ V.heap.size) : Tc V bT F v L n :=
 ⟨(hk bT (Or.inl rfl)).trans h.hd, h.row.holdP fun k hb => hk k (Or.inr (Or.inl hb)), h.ne, fun q hq => (h.en q hq).keep fun k hF => hk k (Or.inr (Or.inr hF)), fun k hF => Nat.lt_of_lt_of_le (h.lt k hF) hs, h.dis⟩
theorem Tc.all_lt (h : Tc W bT F v L n) : ∀ k, k = bT ∨ v.ownBlock = some k ∨ F k → k < W.heap.size := fun k hk => by
 rcases hk with rfl | hk | hk
 ·exact h.hd.lt
 ·exact (h.row.ownlt hk).2
 ·exact h.lt k hk
theorem Tc.later (h : Tc W bT F v L n) (hb : Below W.heap.size W V) : Tc V bT F v L n := h.keep (fun k hk => hb.block k (h.all_lt k hk)) hb.size
/-- the header alone turns -/
theorem Tc.head (h : Tc W bT F v L n) {n' : Int} (hx : Th V bT v n') (hk : ∀ k, k ≠ bT → V.heap[k]? = W.heap[k]?) (hs : W.heap.size ≤ V.heap.size) : Tc V bT F v L n' :=
 ⟨hx, h.row.holdP fun k hb => hk k (h.ne k hb), h.ne, fun q hq => (h.en q hq).keep fun k hF => hk k (h.dis k hF).2, fun k hF => Nat.lt_of_lt_of_le (h.lt k hF) hs, h.dis⟩
theorem Tc.setN (h : Tc W bT F v L n) (n' : Int) : Tc (W.setCell ⟨bT, 1, none⟩ (.int .i64 n')) bT F v L n' :=
 h.head (h.hd.setN n') (fun k hk => heap_setCell_other W ⟨bT, 1, none⟩ k _ hk) (by rw [World.size_setCell]; exact Nat.le_refl _)
theorem Tc.dok (h : Tc W bT F v L n) : ∀ x ∈ ptP L, Go.Proofs.YtpfbfhigelbfcaaGreat.dok x.dg := fun x hx => by
 obtain ⟨q, hq, rfl⟩ := List.mem_map.1 hx
 exact (h.en q hq).dk
theorem Th.chg (h : Th W bT v n) (j : Nat) (u : Value) : Chg (fun k => k = bT) W (W.setCell ⟨bT, j, none⟩ u) := by
 rw [setCell_eq_setRow W bT j _ _ _ _ h]
 exact ⟨setRow_os _ _ _, setRow_tape _ _ _, setRow_output _ _ _, by rw [setRow_size]; exact Nat.le_refl _, fun k _ hk => setRow_other W bT k _ hk⟩
end
/-- a table that holds L -/
def TgB (W : World) (bT : Nat) (F : Nat → Prop) (v : Value) (L : List Pt) : Prop := ∃ Ls, Tc W bT F v Ls (cntT L : Int) ∧ ptP Ls = L ∧ rowT L
/-- what an operation leaves -/
def OpT (w : World) (bT : Nat) (F : Nat → Prop) (v : Value) (L : List Pt) (e : Ending) (w' : World) : Prop :=
 ∃ v' F', e = .returned (.tuple #[]) ∧ TgB w' bT F' v' L ∧ Chg (fun k => k = bT ∨ v.ownBlock = some k) w w' ∧ (∀ b, v'.ownBlock = some b → v.ownBlock = some b ∨ w.heap.size ≤ b) ∧ ∀ b, F' b → F b ∨ w.heap.size ≤ b
end Go.Proofs.YtpfbfhigelbfcaaGreat

