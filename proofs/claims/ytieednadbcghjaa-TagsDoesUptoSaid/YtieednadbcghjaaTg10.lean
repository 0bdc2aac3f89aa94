/- Layer 19: rows of segments, parts of records, as they lie in memory; Layer 20: rows that are read out of blocks that last; Layer 19: entries of names as they lie in memory; Layer 21: rows of names' entries as they lie in memory. (gen_tagq.py); Layer 21, the program: a table of names as it lies in memory: a block with a row of pointers to entries, and how many exist; Two words whose digest begins w -/
import Derived.Test.YtieednadbcghjaaTg1
import Derived.Test.YtieednadbcghjaaTg2
import Derived.Test.YtieednadbcghjaaTg3
import Derived.Test.YtieednadbcghjaaTg6
import Derived.Test.YtieednadbcghjaaTg7
import Derived.Test.YtieednadbcghjaaTg9
set_option linter.unusedSimpArgs false
set_option linter.unusedVariables false
namespace Go.Proofs.Ytieednadbcghjaa
set_option linter.unusedVariables false
open Go.RowKit Go.Lib

/-- a slice that reads as these numbers -/
def Is (W : World) (s : Value) (L : List Int) : Prop := ∃ p c, s = .slice p L.length c ∧ Gs encI W p L.length L ∧ (p = none → c = 0) ∧ L.length ≤ c ∧ c ≤ maxLen
theorem Is.later {W W' : World} {s : Value} {L : List Int} (h : Is W s L) (hb : Below W.heap.size W W') : Is W' s L := by
  obtain ⟨p, c, h1, h2, h3⟩ := h
  exact ⟨p, c, h1, h2.later hb, h3⟩
theorem Is.nil (W : World) : Is W (.slice none 0 0) [] := ⟨none, 0, rfl, Gs.empty _ _ _, fun _ => rfl, Nat.le_refl _, by unfold maxLen; decide⟩
theorem Is.lit1 (W : World) (a : Int) : Is (W.alloc (.cells #[.int .i64 a] 3)) (.slice (some ⟨W.heap.size, 0, none⟩) 1 1) [a] := ⟨_, 1, rfl, Gs.one encI W a #[.int .i64 a] rfl 3 (0, 0), by simp, Nat.le_refl _, by unfold maxLen; decide⟩
theorem Is.lit2 (W : World) (a b : Int) : Is (W.alloc (.cells #[.int .i64 a, .int .i64 b] 3)) (.slice (some ⟨W.heap.size, 0, none⟩) 2 2) [a, b] := by
  have h := heap_alloc_new W (.cells #[.int .i64 a, .int .i64 b] 3)
  refine ⟨_, 2, rfl, ⟨rfl, Or.inr ⟨W.heap.size, 0, rfl, fun j hj i u hu => ?_⟩⟩, by simp, Nat.le_refl _, by unfold maxLen; decide⟩
  have hj2 : j < 2 := hj
  have hi : i < 1 := (List.getElem?_eq_some_iff.1 hu).1
  obtain rfl : i = 0 := by omega
  match j, hj2, hu with
  | 0, _, hu => rw [show 0 + 0 * encI.k + 0 = 0 from rfl, cell_of_row _ _ 0 _ _ _ h]; exact hu
  | 1, _, hu => rw [show 0 + 1 * encI.k + 0 = 1 from rfl, cell_of_row _ _ 1 _ _ _ h]; exact hu
theorem Gw.is {W : World} {B : Nat} {v : Value} {L : List Int} (h : Gw encI W B v L) : Is W v L := by
  have h' := h
  obtain ⟨hl, h2⟩ := h
  rcases h2 with ⟨rfl, h0⟩ | ⟨g, cap, cur, rfl, hB, hg, hn, hm, hs, ht⟩
  · obtain rfl := List.length_eq_zero_iff.1 h0
    exact Is.nil W
  · exact ⟨_, cap, rfl, h'.gs, by simp, hn, hm⟩
theorem sizeD32 : (Try.prog.info? 29).map (·.size) = some 32 := by kernel_rfl
theorem sizeL3 : (Try.prog.info? 31).map (·.size) = some 3 := by kernel_rfl
theorem Wm.dig {w : World} {b : Nat} {x : Wq} (h : Wm w b x) (hd : x.dg.length = 32) : (Instr.loadAt 29 (.pointer (some ⟨b, 2, none⟩))).run Try.prog w = .ok (.agg (bcs x.dg)) w :=
  Mx.loadDig h _ Try.underlying29 rfl (by rw [hd]; exact sizeD32) 2 rfl
def lcA (seg off len : Int) : Array Value := #[.int .i64 seg, .int .i64 off, .int .i64 len]
/-- three cells of the last part of a struct with a digest: a place -/
theorem Mx.loc {w : World} {b : Nat} {t : TypeId} {a z : List Value} {dg : List Int} (h : Mx w b t a dg z) (hd : dg.length = 32) (k j : Nat) (hk : k = a.length + 32 + j) {x y u : Int} (h0 : z[j]? = some (.int .i64 x)) (h1 : z[j + 1]? = some (.int .i64 y)) (h2 : z[j + 2]? = some (.int .i64 u)) :
    (Instr.loadAt 31 (.pointer (some ⟨b, k, none⟩))).run Try.prog w = .ok (.agg (lcA x y u)) w := by
  subst hk
  refine run_loadAt_mid w b _ _ [.int .i64 x, .int .i64 y, .int .i64 u] _ (fun i v hv => ?_) Try.underlying31 rfl (by exact sizeL3)
  match i, hv with
  | 0, hv =>
    simp only [List.getElem?_cons_zero, Option.some.injEq] at hv
    rw [← hv]
    exact Mx.last h hd j _ h0
  | 1, hv =>
    simp only [List.getElem?_cons_succ, List.getElem?_cons_zero, Option.some.injEq] at hv
    rw [← hv, Nat.add_assoc]
    exact Mx.last h hd (j + 1) _ h1
  | 2, hv =>
    simp only [List.getElem?_cons_succ, List.getElem?_cons_zero, Option.some.injEq] at hv
    rw [← hv, Nat.add_assoc]
    exact Mx.last h hd (j + 2) _ h2
  | n + 3, hv => simp at hv
theorem Wm.cells5 {w : World} {b : Nat} {x : Wq} (h : Wm w b x) (hd : x.dg.length = 32) : w.cell? ⟨b, 0, none⟩ = some (.int .i64 x.k) ∧ w.cell? ⟨b, 34, none⟩ = some (.string x.nm) ∧ w.cell? ⟨b, 35, none⟩ = some (.int .i64 x.z) ∧ w.cell? ⟨b, 36, none⟩ = some (.int .i64 x.seg) :=
  ⟨Mx.first h 0 _ rfl, Mx.last h hd 0 _ rfl, Mx.last h hd 1 _ rfl, Mx.last h hd 2 _ rfl⟩
theorem Wm.loc {w : World} {b : Nat} {x : Wq} (h : Wm w b x) (hd : x.dg.length = 32) : (Instr.loadAt 31 (.pointer (some ⟨b, 36, none⟩))).run Try.prog w = .ok (.agg (lcA x.seg x.off x.len)) w := Mx.loc h hd 36 2 rfl rfl rfl rfl
end Go.Proofs.Ytieednadbcghjaa

namespace Go.Proofs.Ytieednadbcghjaa
set_option linter.unusedVariables false
open Go.RowKit Go.Lib

theorem en_range {W V : World} {b o : Nat} {cs : List Value} (h : W.rangeAt b o cs) (hb : Below W.heap.size W V) : V.rangeAt b o cs := fun i v hv => by
  have h1 := h i v hv
  rw [hb.cell (World.block_lt_of_cell? W _ h1)]
  exact h1
theorem Is.hold {W W' : World} {s : Value} {L : List Int} (h : Is W s L) (hk : L ≠ [] → ∀ b, s.ownBlock = some b → W'.heap[b]? = W.heap[b]?) : Is W' s L := by
  obtain ⟨p, c, rfl, h2, h3⟩ := h
  refine ⟨p, c, rfl, ⟨h2.1, ?_⟩, h3⟩
  rcases h2.2 with h0 | ⟨b, off, rfl, hc⟩
  · exact Or.inl h0
  · by_cases hL : L = []
    · exact Or.inl (by rw [hL]; rfl)
    · have h4 := hk hL b rfl
      refine Or.inr ⟨b, off, rfl, fun j hj i u hu => ?_⟩
      rw [World.cell?_of_block (a := ⟨b, off + j * encI.k + i, none⟩) h4]
      exact hc j hj i u hu
theorem Is.lt {W : World} {s : Value} {L : List Int} (h : Is W s L) (hL : L ≠ []) {b : Nat} (hb : s.ownBlock = some b) : b < W.heap.size := by
  obtain ⟨p, c, rfl, h2, h3⟩ := h
  cases p with
  | none => cases hb
  | some a =>
    simp only [Value.ownBlock, Option.some.injEq] at hb
    subst hb
    have hn : 0 < L.length := List.length_pos_iff.2 hL
    obtain ⟨b, off, hp⟩ : ∃ b off, a = ⟨b, off, none⟩ := by
      rcases h2.2 with h0 | ⟨b, off, hp, hc⟩
      · omega
      · exact ⟨b, off, by simpa using hp⟩
    subst hp
    exact h2.block_lt hn
theorem Gs.hold {α : Type} {E : Ec α} {W W' : World} {p : Option Addr} {n : Nat} {L : List α} (h : Gs E W p n L) (hk : n ≠ 0 → ∀ b off, p = some ⟨b, off, none⟩ → W'.heap[b]? = W.heap[b]?) : Gs E W' p n L := by
  refine ⟨h.1, ?_⟩
  rcases h.2 with h0 | ⟨b, off, rfl, hc⟩
  · exact Or.inl h0
  · by_cases hn : n = 0
    · exact Or.inl hn
    · have h4 := hk hn b off rfl
      refine Or.inr ⟨b, off, rfl, fun j hj i u hu => ?_⟩
      rw [World.cell?_of_block (a := ⟨b, off + j * E.k + i, none⟩) h4]
      exact hc j hj i u hu
end Go.Proofs.Ytieednadbcghjaa

namespace Go.Proofs.Ytieednadbcghjaa
set_option linter.unusedVariables false
open Go.RowKit Go.Lib

def Pt.a (x : Pt) : List Value := [.string x.nm]
def Pt.t (x : Pt) (s : Value) : List Value := [.bool x.gone, .int .i64 x.seg, .int .i64 x.off, .int .i64 x.len, s]
def tnC (x : Pt) (s : Value) : Array Value := mixC x.a x.dg (x.t s)
def tnV (x : Pt) (s : Value) : Value := .agg (tnC x s)
def Tn (w : World) (b : Nat) (x : Pt) (s : Value) : Prop := Mx w b 42 x.a x.dg (x.t s)
theorem sizeTn : (Try.prog.info? 42).map (·.size) = some 38 := by kernel_rfl
theorem tnC_size (x : Pt) (s : Value) (hd : x.dg.length = 32) : (tnC x s).size = 38 := by unfold tnC; rw [mixC_size, hd]; rfl
theorem tnC_sizeOf (x : Pt) (s : Value) (hd : x.dg.length = 32) : (Try.prog.info? 42).map (·.size) = some (tnC x s).size := by rw [tnC_size x s hd]; exact sizeTn
theorem tnC_one (x : Pt) (p : Option Addr) (n c : Nat) : (tnC x (.slice p n c)).all (·.oneCell') = true := mixC_one (by simp [Pt.a, Value.oneCell']) (by simp [Pt.t, Value.oneCell'])
theorem Tn.later {w w' : World} {b : Nat} {x : Pt} {s : Value} (h : Tn w b x s) (hb : Below w.heap.size w w') : Tn w' b x s := Mx.later h hb
theorem Tn.load {w : World} {b : Nat} {x : Pt} {s : Value} (h : Tn w b x s) (hd : x.dg.length = 32) : (Instr.loadAt 42 (.pointer (some ⟨b, 0, none⟩))).run Try.prog w = .ok (.agg (tnC x s)) w := Mx.load h _ Try.underlying42 rfl (tnC_sizeOf x s hd)
theorem Tn.dig {w : World} {b : Nat} {x : Pt} {s : Value} (h : Tn w b x s) (hd : x.dg.length = 32) : (Instr.loadAt 29 (.pointer (some ⟨b, 1, none⟩))).run Try.prog w = .ok (.agg (bcs x.dg)) w :=
  Mx.loadDig h _ Try.underlying29 rfl (by rw [hd]; exact sizeD32) 1 rfl
theorem Tn.cells {w : World} {b : Nat} {x : Pt} {s : Value} (h : Tn w b x s) (hd : x.dg.length = 32) : w.cell? ⟨b, 0, none⟩ = some (.string x.nm) ∧ w.cell? ⟨b, 33, none⟩ = some (.bool x.gone) ∧ w.cell? ⟨b, 34, none⟩ = some (.int .i64 x.seg) ∧ w.cell? ⟨b, 37, none⟩ = some s :=
  ⟨Mx.first h 0 _ rfl, Mx.last h hd 0 _ rfl, Mx.last h hd 1 _ rfl, Mx.last h hd 4 _ rfl⟩
theorem Tn.loc {w : World} {b : Nat} {x : Pt} {s : Value} (h : Tn w b x s) (hd : x.dg.length = 32) : (Instr.loadAt 31 (.pointer (some ⟨b, 34, none⟩))).run Try.prog w = .ok (.agg (lcA x.seg x.off x.len)) w := Mx.loc h hd 34 1 rfl rfl rfl rfl
theorem Tn.res1 {fn : Func} {p : Tmp} {w : World} {g : Nat} {x : Pt} {s : Value} (hg : Tn w g x s) (hd : x.dg.length = 32) (h : fn.results = #[.cell p 42]) (tmps : Array Value)
    (hp : tmps.getD p undef = .pointer (some ⟨g, 0, none⟩)) : (Go.results fn tmps).run Try.prog w = .ok (tnV x s) w :=
  results_cell_row h tmps w g _ _ _ _ hp hg Try.underlying42 rfl (tnC_sizeOf x s hd)
theorem Tn.res2 {fn : Func} {p u : Tmp} {w : World} {g : Nat} {x : Pt} {s : Value} (hg : Tn w g x s) (hd : x.dg.length = 32) (h : fn.results = #[.cell p 42, .tmp u]) (tmps : Array Value)
    (hp : tmps.getD p undef = .pointer (some ⟨g, 0, none⟩)) : (Go.results fn tmps).run Try.prog w = .ok (.tuple #[tnV x s, tmps.getD u undef]) w := by
  rw [results_cell_tmp h, hp]
  simp only [asAddr, Sem.run_pure, Result.andThen]
  rw [run_loadVar_mid w g 0 42 _ _ (Mx.range hg) Try.underlying42 rfl (by rw [mixL_length, hd]; exact sizeTn)]
  rfl
theorem tnZero : tnC zeroT (.slice none 0 0) = #[.string ⟨#[]⟩, .int .u8 0, .int .u8 0, .int .u8 0, .int .u8 0, .int .u8 0, .int .u8 0, .int .u8 0, .int .u8 0, .int .u8 0, .int .u8 0, .int .u8 0, .int .u8 0, .int .u8 0, .int .u8 0, .int .u8 0, .int .u8 0, .int .u8 0, .int .u8 0, .int .u8 0, .int .u8 0, .int .u8 0, .int .u8 0, .int .u8 0, .int .u8 0, .int .u8 0, .int .u8 0, .int .u8 0, .int .u8 0, .int .u8 0, .int .u8 0, .int .u8 0, .int .u8 0, .bool false, .int .i64 0, .int .i64 0, .int .i64 0, .slice none 0 0] := rfl

end Go.Proofs.Ytieednadbcghjaa

namespace Go.Proofs.Ytieednadbcghjaa
set_option linter.unusedVariables false
open Go.RowKit Go.Lib

/-- an entry and where its row of segments lies -/
structure Tx where
  e : Pt
  p : Option Addr
  c : Nat
  hd : e.dg.length = 32
def Tx.s (x : Tx) : Value := .slice x.p x.e.ins.length x.c
def encTn : Ec Tx where
  f := fun x => mixL x.e.a x.e.dg (x.e.t x.s)
  k := 38
  t := 42
  d := ⟨zeroT, none, 0, rfl⟩
  len := fun x => by rw [mixL_length, x.hd]; rfl
  one := fun x v hv => by
    unfold mixL at hv
    rcases List.mem_append.1 hv with h | h
    · simp only [Pt.a, List.mem_cons, List.not_mem_nil, or_false] at h
      subst h; rfl
    · rcases List.mem_append.1 h with h | h
      · obtain ⟨y, _, rfl⟩ := List.mem_map.1 h; rfl
      · simp only [Pt.t, Tx.s, List.mem_cons, List.not_mem_nil, or_false] at h
        rcases h with rfl | rfl | rfl | rfl | rfl <;> rfl
  pos := by decide
def ptL (L : List Tx) : List Pt := L.map (·.e)
theorem ptL_length (L : List Tx) : (ptL L).length = L.length := List.length_map _
theorem ptL_append (L M : List Tx) : ptL (L ++ M) = ptL L ++ ptL M := List.map_append
theorem ptL_dgs (L : List Tx) : dgsT (ptL L) := fun x hx => by
  obtain ⟨y, _, rfl⟩ := List.mem_map.1 hx
  exact y.hd
theorem ptL_get {L : List Tx} {j : Nat} {x : Tx} (h : L[j]? = some x) : (ptL L)[j]? = some x.e := by unfold ptL; rw [List.getElem?_map, h]; rfl
theorem Tx.fC (x : Tx) : encTn.f x = (tnC x.e x.s).toList := by
  unfold tnC mixC
  rw [List.toList_toArray]
  rfl
theorem Gs.tn {W : World} {p : Option Addr} {n : Nat} {L : List Tx} (h : Gs encTn W p n L) (j : Nat) (hj : j < n) :
    ∃ b off x, p = some ⟨b, off, none⟩ ∧ L[j]? = some x ∧ x ∈ L ∧ W.rangeAt b (off + j * 38) (mixL x.e.a x.e.dg (x.e.t x.s)) := by
  obtain ⟨b, off, hp, hc⟩ := h.ptr j hj
  have hl := h.len
  have hx : L[j]? = some (L[j]'(by omega)) := List.getElem?_eq_getElem _
  have e : L.getD j encTn.d = L[j]'(by omega) := by rw [List.getD_eq_getElem?_getD, hx]; rfl
  rw [e] at hc
  exact ⟨b, off, _, hp, hx, List.getElem_mem _, fun i v hv => hc i v hv⟩
theorem tn_load {W : World} {b o : Nat} {x : Tx} (h : W.rangeAt b o (mixL x.e.a x.e.dg (x.e.t x.s))) : (Instr.loadAt 42 (.pointer (some ⟨b, o, none⟩))).run Try.prog W = .ok (.agg (tnC x.e x.s)) W :=
  run_loadAt_mid W b o 42 _ _ h Try.underlying42 rfl (by rw [mixL_length, x.hd]; exact sizeTn)
theorem tn_dig {W : World} {b o : Nat} {x : Tx} (h : W.rangeAt b o (mixL x.e.a x.e.dg (x.e.t x.s))) : (Instr.loadAt 29 (.pointer (some ⟨b, o + 1, none⟩))).run Try.prog W = .ok (.agg (bcs x.e.dg)) W := by
  have h1 : W.rangeAt b (o + 1) (x.e.dg.map (Value.int .u8)) := fun i v hv => by
    rw [show o + 1 + i = o + (i + 1) by omega]
    refine h (i + 1) v ?_
    show (Value.string x.e.nm :: (x.e.dg.map (Value.int .u8) ++ x.e.t x.s))[i + 1]? = some v
    rw [List.getElem?_cons_succ, List.getElem?_append_left (List.getElem?_eq_some_iff.1 hv).1]
    exact hv
  exact run_loadAt_mid W b (o + 1) 29 _ _ h1 Try.underlying29 rfl (by rw [List.length_map, x.hd]; exact sizeD32)
theorem tn_cells {W : World} {b o : Nat} {x : Tx} (h : W.rangeAt b o (mixL x.e.a x.e.dg (x.e.t x.s))) : W.cell? ⟨b, o, none⟩ = some (.string x.e.nm) ∧ W.cell? ⟨b, o + 33, none⟩ = some (.bool x.e.gone) := by
  have hl : (x.e.dg.map (Value.int .u8)).length = 32 := by rw [List.length_map, x.hd]
  refine ⟨h 0 _ rfl, h 33 _ ?_⟩
  show (Value.string x.e.nm :: (x.e.dg.map (Value.int .u8) ++ x.e.t x.s))[33]? = _
  rw [List.getElem?_cons_succ, List.getElem?_append_right (by omega), hl]
  rfl
def tzero : Value := .agg (tnC zeroT (.slice none 0 0))
theorem infoTn : (Try.prog.info? encTn.t).map (fun i => (i.zero, i.size, i.bytes)) = some (some tzero, encTn.k, 104) := by kernel_rfl
theorem tzero_size : tzero.cells.size = encTn.k := by kernel_rfl
/-- an entry whose slice is open -/
theorem Is.tx {W : World} {s : Value} {e : Pt} (h : Is W s e.ins) (hd : e.dg.length = 32) : ∃ x : Tx, x.e = e ∧ x.s = s ∧ Is W x.s x.e.ins := by
  obtain ⟨p, c, rfl, h2⟩ := h
  exact ⟨⟨e, p, c, hd⟩, rfl, rfl, ⟨p, c, rfl, h2⟩⟩
/-- a row of entries that is read out of blocks of N -/
structure ReT (W : World) (N : Nat → Prop) (p : Option Addr) (n : Nat) (L : List Tx) : Prop where
  gs : Gs encTn W p n L
  row : n ≠ 0 → ∀ b off, p = some ⟨b, off, none⟩ → N b
  is : ∀ x ∈ L, Is W x.s x.e.ins
  bl : ∀ x ∈ L, x.e.ins ≠ [] → ∀ b, x.s.ownBlock = some b → N b
  dk : ∀ x ∈ L, dok x.e.dg
  lt : ∀ b, N b → b < W.heap.size
theorem ReT.hold {W W' : World} {N : Nat → Prop} {p : Option Addr} {n : Nat} {L : List Tx} (h : ReT W N p n L) (hk : ∀ b, N b → W'.heap[b]? = W.heap[b]?) (hs : W.heap.size ≤ W'.heap.size) : ReT W' N p n L :=
  ⟨h.gs.hold fun hn b off hp => hk b (h.row hn b off hp), h.row, fun x hx => (h.is x hx).hold fun hL b hb => hk b (h.bl x hx hL b hb), h.bl, h.dk, fun b hb => Nat.lt_of_lt_of_le (h.lt b hb) hs⟩
theorem ReT.later {W W' : World} {N : Nat → Prop} {p : Option Addr} {n : Nat} {L : List Tx} (h : ReT W N p n L) (hb : Below W.heap.size W W') : ReT W' N p n L :=
  h.hold (fun b hN => hb.block b (h.lt b hN)) hb.size
/-- a row that a call answers: of entries that were there, or whose rows of segments are its own -/
theorem ReT.next {w w' : World} {N : Nat → Prop} {p q : Option Addr} {n m : Nat} {L o : List Tx} (h : ReT w N p n L) (hb : Below w.heap.size w w') (hg : Gs encTn w' q m o) (hq : m ≠ 0 → ∀ b off, q = some ⟨b, off, none⟩ → N b ∨ w.heap.size ≤ b)
    (ho : ∀ x ∈ o, x ∈ L ∨ dok x.e.dg ∧ Gw encI w' w.heap.size x.s x.e.ins) : ReT w' (fun b => N b ∨ (w.heap.size ≤ b ∧ b < w'.heap.size)) q m o := by
  refine ⟨hg, fun hn b off hp => ?_, fun x hx => ?_, fun x hx hL b hb2 => ?_, fun x hx => ?_, fun b hb2 => ?_⟩
  · rcases hq hn b off hp with h1 | h1
    · exact Or.inl h1
    · subst hp
      exact Or.inr ⟨h1, hg.block_lt (by omega)⟩
  · rcases ho x hx with h1 | ⟨_, h1⟩
    · exact (h.is x h1).later hb
    · exact h1.is
  · rcases ho x hx with h1 | ⟨_, h1⟩
    · exact Or.inl (h.bl x h1 hL b hb2)
    · refine Or.inr ⟨?_, h1.is.lt hL hb2⟩
      obtain ⟨hl, h3⟩ := h1
      rcases h3 with ⟨h4, h0⟩ | ⟨g, cap, cur, h4, hB2, _⟩
      · rw [h4] at hb2; cases hb2
      · rw [h4] at hb2
        simp only [Value.ownBlock, Option.some.injEq] at hb2
        omega
  · rcases ho x hx with h1 | ⟨h1, _⟩
    · exact h.dk x h1
    · exact h1
  · rcases hb2 with h1 | h1
    · exact Nat.lt_of_lt_of_le (h.lt b h1) hb.size
    · exact h1.2
theorem ReT.mono {W : World} {N M : Nat → Prop} {p : Option Addr} {n : Nat} {L : List Tx} (h : ReT W N p n L) (hs : ∀ b, N b → M b) (hl : ∀ b, M b → b < W.heap.size) : ReT W M p n L :=
  ⟨h.gs, fun hn b off hp => hs b (h.row hn b off hp), h.is, fun x hx hL b hb => hs b (h.bl x hx hL b hb), h.dk, hl⟩
end Go.Proofs.Ytieednadbcghjaa

namespace Go.Proofs.Ytieednadbcghjaa
set_option linter.unusedVariables false
open Go.RowKit Go.Lib

/-- an entry in a block of its own -/
structure Tp where
  b : Nat
  x : Tx
def encTp : Ec Tp where
  f := fun q => [.pointer (some ⟨q.b, 0, none⟩)]
  k := 1
  t := 68
  d := ⟨0, encTn.d⟩
  len := fun _ => rfl
  one := fun q v hv => by rw [List.mem_singleton] at hv; subst hv; rfl
  pos := by decide
theorem infoTp : (Try.prog.info? encTp.t).map (fun i => (i.zero, i.size, i.bytes)) = some (some (.pointer none), encTp.k, 8) := by kernel_rfl
def ptP (L : List Tp) : List Pt := L.map (·.x.e)
theorem ptP_length (L : List Tp) : (ptP L).length = L.length := List.length_map _
theorem ptP_append (L M : List Tp) : ptP (L ++ M) = ptP L ++ ptP M := List.map_append
theorem ptP_get {L : List Tp} {j : Nat} {q : Tp} (h : L[j]? = some q) : (ptP L)[j]? = some q.x.e := by unfold ptP; rw [List.getElem?_map, h]; rfl
theorem ptP_take (L : List Tp) (j : Nat) : ptP (L.take j) = (ptP L).take j := List.map_take
theorem ptP_drop (L : List Tp) (j : Nat) : ptP (L.drop j) = (ptP L).drop j := List.map_drop
theorem Gs.tp {W : World} {p : Option Addr} {n : Nat} {L : List Tp} (h : Gs encTp W p n L) (j : Nat) (hj : j < n) : ∃ b off q, p = some ⟨b, off, none⟩ ∧ L[j]? = some q ∧ q ∈ L ∧ W.cell? ⟨b, off + j, none⟩ = some (.pointer (some ⟨q.b, 0, none⟩)) := by
  obtain ⟨b, off, hp, hc⟩ := h.ptr j hj
  have hl := h.len
  have hx : L[j]? = some (L[j]'(by omega)) := List.getElem?_eq_getElem _
  have e : L.getD j encTp.d = L[j]'(by omega) := by rw [List.getD_eq_getElem?_getD, hx]; rfl
  rw [e] at hc
  refine ⟨b, off, _, hp, hx, List.getElem_mem _, ?_⟩
  have h0 := hc 0 _ rfl
  rw [show off + j * encTp.k + 0 = off + j by show off + j * 1 + 0 = _; omega] at h0
  exact h0
theorem Gw.holdP {α : Type} {E : Ec α} {W V : World} {B : Nat} {v : Value} {L : List α} (h : Gw E W B v L) (hk : ∀ b, v.ownBlock = some b → V.heap[b]? = W.heap[b]?) : Gw E V B v L := by
  obtain ⟨hl, h2⟩ := h
  refine ⟨hl, ?_⟩
  rcases h2 with h2 | ⟨g, cap, cur, hv, hB, hg, r⟩
  · exact Or.inl h2
  · exact Or.inr ⟨g, cap, cur, hv, hB, by rw [hk g (by rw [hv]; rfl)]; exact hg, r⟩
theorem Gw.ownlt {α : Type} {E : Ec α} {W : World} {B : Nat} {v : Value} {L : List α} (h : Gw E W B v L) {b : Nat} (hb : v.ownBlock = some b) : B ≤ b ∧ b < W.heap.size := World.ownsRow.lt h b hb
/-- a pointer of an own row is set -/
theorem Gw.setTp {W : World} {B g n c : Nat} {L : List Tp} (h : Gw encTp W B (.slice (some ⟨g, 0, none⟩) n c) L) {j : Nat} (hj : j < n) (q : Tp) :
    Gw encTp (W.setCell ⟨g, j, none⟩ (.pointer (some ⟨q.b, 0, none⟩))) B (.slice (some ⟨g, 0, none⟩) n c) (L.take j ++ q :: L.drop (j + 1)) := by
  obtain ⟨hn, hB, hnc, hcm, cur, hg, hs, ht⟩ := h.block
  have hflat : ∀ M : List Tp, encTp.flat M = M.map fun q => Value.pointer (some ⟨q.b, 0, none⟩) := fun M => by
    induction M with
    | nil => rfl
    | cons x M ih => rw [Ec.flat, ih]; rfl
  have h1 : encTp.k = 1 := rfl
  rw [h1, Nat.mul_one] at ht hs
  rw [hflat] at ht
  have hl : (L.take j ++ q :: L.drop (j + 1)).length = n := by rw [List.length_append, List.length_take, List.length_cons, List.length_drop]; omega
  have hh := heap_setCell_same W g j _ _ (.pointer (some ⟨q.b, 0, none⟩)) hg
  have := Gw.mk (E := encTp) (L := L.take j ++ q :: L.drop (j + 1)) (c := c) hB (by rw [hl]; exact hnc) hcm hh (by rw [Array.size_setIfInBounds, hs, h1, Nat.mul_one]) ?_
  · rw [hl] at this
    exact this
  · rw [hl, h1, Nat.mul_one, hflat, Array.toList_setIfInBounds]
    rw [List.take_set, ht, List.map_append, List.map_cons, List.map_take, List.map_drop]
    have hjl : j < (L.map fun q => Value.pointer (some ⟨q.b, 0, none⟩)).length := by rw [List.length_map]; omega
    rw [List.set_eq_take_append_cons_drop, if_pos hjl]
/-- 'append' of a full slice: what it answers is new -/
theorem wp_append_full {α : Type} {P : Program} (E : Ec α) {w : World} {o : Oper} {a : Act} {K : Act → World → Prop} {Q : Exit → Act → World → Prop} (s x : Operand) (t : TypeId)
    (ho : o.op = .call { callee := .builtin .append, args := #[s, x], argTypes := #[t, t] }) (ht : P.underlying t = some (.slice E.t))
    (z : Value) (by_ : Nat) (hinfo : (P.info? E.t).map (fun i => (i.zero, i.size, i.bytes)) = some (some z, E.k, by_)) (hzs : z.cells.size = E.k) (hby : by_ ≤ 4096)
    (b off n : Nat) (L : List α) (hs : a.eval s = .slice (some ⟨b, off, none⟩) n n) (hob : Gs E w (some ⟨b, off, none⟩) n L) (b2 off2 m c : Nat) (M : List α) (hx : a.eval x = .slice (some ⟨b2, off2, none⟩) m c) (hbs : Gs E w (some ⟨b2, off2, none⟩) m M) (hm : 0 < m)
    (hbytes : n + m ≤ 2097216)
    (h : ∀ v' w', Gw E w' w.heap.size v' (L ++ M) → Below w.heap.size w w' → K (a.put o.dst v') w') : o.wp P a w K Q := by
  obtain ⟨i, hi, hzz⟩ := Option.map_eq_some_iff.1 hinfo
  simp only [Prod.mk.injEq] at hzz
  obtain ⟨hz, hsz, hb⟩ := hzz
  have hcells : ∀ (b off n : Nat) (L : List α), Gs E w (some ⟨b, off, none⟩) n L → ∀ j u, (E.flat L)[j]? = some u → w.cell? ((⟨b, off, none⟩ : Addr).add j) = some u := by
    intro b off n L hL j u hu
    have hj : j < n * E.k := by
      have := (List.getElem?_eq_some_iff.1 hu).1
      rw [E.flat_length, hL.1] at this
      exact this
    rcases hL.2 with h0 | ⟨b', off', hp, hc⟩
    · rw [h0] at hj; omega
    · simp only [Option.some.injEq, Addr.mk.injEq, and_true] at hp
      obtain ⟨rfl, rfl⟩ := hp
      have hd : j / E.k < n := Nat.div_lt_of_lt_mul (by rw [Nat.mul_comm]; exact hj)
      have hm2 : j % E.k < E.k := Nat.mod_lt _ E.pos
      have e0 : j / E.k * E.k + j % E.k = j := by rw [Nat.mul_comm]; exact Nat.div_add_mod j E.k
      have hu' := hu
      rw [← e0, E.flat_get L _ _ (by rw [hL.1]; exact hd) hm2] at hu'
      have := hc _ hd _ u hu'
      rw [Nat.add_assoc, e0] at this
      rw [WideShapes.add_plain]
      exact this
  have hbb : (n + m) * by_ ≤ 140737488355328 := Nat.le_trans (Nat.mul_le_mul hbytes hby) (by decide)
  have hrun := run_append_grow (P := P) w t o.type E.t i z ht hi hz ⟨b, off, none⟩ n n (E.flat L) (by rw [E.flat_length, hob.1, hsz]) (hcells b off n L hob) ⟨b2, off2, none⟩ m c (E.flat M) (by rw [E.flat_length, hbs.1, hsz]) (hcells b2 off2 m M hbs)
    (by omega) (by omega) (growslice_fits (by omega) (by rw [hb]; exact hbb))
  have hcap := grownCap_ge w (n + m) n E.t
  have hlm : (L ++ M).length = n + m := by rw [List.length_append, hob.1, hbs.1]
  have hgw : Gw E (w.drew.alloc (.cells ((E.flat L).toArray ++ (E.flat M).toArray ++ Builtin.zeroCells z.cells (grownCap w (n + m) n E.t - (n + m))) E.t)) w.heap.size (.slice (some ⟨w.heap.size, 0, none⟩) (n + m) (grownCap w (n + m) n E.t)) (L ++ M) := by
    have h1 := Gw.mk (E := E) (L := L ++ M) (B := w.heap.size) (c := grownCap w (n + m) n E.t) (Nat.le_refl _) (by rw [hlm]; exact hcap) (grownCap_le_maxLen w (n + m) n E.t (by unfold maxLen; omega))
      (heap_alloc_new w.drew (.cells ((E.flat L).toArray ++ (E.flat M).toArray ++ Builtin.zeroCells z.cells (grownCap w (n + m) n E.t - (n + m))) E.t)) ?_ ?_
    · rw [hlm] at h1
      exact h1
    · simp only [Array.size_append, List.size_toArray, size_zeroCells, hzs, E.flat_length, hob.1, hbs.1, ← Nat.add_mul]
      congr 1
      omega
    · have h2 : (E.flat (L ++ M)).length = (L ++ M).length * E.k := E.flat_length _
      rw [← h2]
      simp only [Array.toList_append]
      rw [← E.flat_append]
      exact List.take_left
  unfold Oper.wp execOp
  simp only [ho, resolve, invoke, builtin, Sem.run_bind, Sem.run_pure, Result.andThen_ok, List.map_toArray, List.map_cons, List.map_nil, hs, hx, hrun]
  exact h _ _ hgw (((Below.refl _ w).drew).alloc (Nat.le_refl _) _)
/-- block bT holds a table: its row of entries, and how many exist -/
def Th (W : World) (bT : Nat) (v : Value) (n : Int) : Prop := W.heap[bT]? = some (.cells #[v, .int .i64 n] 64 (0, 0))
theorem Th.cells {W : World} {bT : Nat} {v : Value} {n : Int} (h : Th W bT v n) : W.cell? ⟨bT, 0, none⟩ = some v ∧ W.cell? ⟨bT, 1, none⟩ = some (.int .i64 n) :=
  ⟨cell_of_row _ _ 0 _ _ _ h, cell_of_row _ _ 1 _ _ _ h⟩
theorem Th.frozen {W : World} {bT : Nat} {v : Value} {n : Int} (h : Th W bT v n) (j : Nat) : W.frozen? ⟨bT, j, none⟩ = false := frozen_of_row W bT j _ _ h
theorem Th.setV {W : World} {bT : Nat} {v : Value} {n : Int} (h : Th W bT v n) (v' : Value) : Th (W.setCell ⟨bT, 0, none⟩ v') bT v' n := heap_setCell_same W bT 0 _ _ _ h
theorem Th.setN {W : World} {bT : Nat} {v : Value} {n : Int} (h : Th W bT v n) (n' : Int) : Th (W.setCell ⟨bT, 1, none⟩ (.int .i64 n')) bT v n' := heap_setCell_same W bT 1 _ _ _ h
theorem Th.lt {W : World} {bT : Nat} {v : Value} {n : Int} (h : Th W bT v n) : bT < W.heap.size := (Array.getElem?_eq_some_iff.1 h).1
/-- entries in blocks of F, with rows of segments of F -/
structure En (W : World) (F : Nat → Prop) (q : Tp) : Prop where
  tn : Tn W q.b q.x.e q.x.s
  f : F q.b
  is : Is W q.x.s q.x.e.ins
  bl : q.x.e.ins ≠ [] → ∀ k, q.x.s.ownBlock = some k → F k
  dk : dok q.x.e.dg
theorem En.keep {W V : World} {F : Nat → Prop} {q : Tp} (h : En W F q) (hk : ∀ k, F k → V.heap[k]? = W.heap[k]?) : En V F q :=
  ⟨Mx.keep h.tn (hk q.b h.f), h.f, h.is.hold fun hne k hb => hk k (h.bl hne k hb), h.bl, h.dk⟩
theorem En.mono {W : World} {F G : Nat → Prop} {q : Tp} (h : En W F q) (hs : ∀ k, F k → G k) : En W G q := ⟨h.tn, hs _ h.f, h.is, fun hne k hb => hs k (h.bl hne k hb), h.dk⟩
/-- a table whose header tells n -/
structure Tc (W : World) (bT : Nat) (F : Nat → Prop) (v : Value) (L : List Tp) (n : Int) : Prop where
  hd : Th W bT v n
  row : Gw encTp W 0 v L
  ne : ∀ k, v.ownBlock = some k → k ≠ bT
  en : ∀ q ∈ L, En W F q
  lt : ∀ k, F k → k < W.heap.size
  dis : ∀ k, F k → v.ownBlock ≠ some k ∧ k ≠ bT
section
variable {W V : World} {bT : Nat} {F : Nat → Prop} {v : Value} {L : List Tp} {n : Int}
theorem Tc.keep (h : Tc W bT F v L n) (hk : ∀ k, k = bT ∨ v.ownBlock = some k ∨ F k → V.heap[k]? = W.heap[k]?) (hs : W.heap.size ≤ V.heap.size) : Tc V bT F v L n :=
  ⟨(hk bT (Or.inl rfl)).trans h.hd, h.row.holdP fun k hb => hk k (Or.inr (Or.inl hb)), h.ne, fun q hq => (h.en q hq).keep fun k hF => hk k (Or.inr (Or.inr hF)), fun k hF => Nat.lt_of_lt_of_le (h.lt k hF) hs, h.dis⟩
theorem Tc.all_lt (h : Tc W bT F v L n) : ∀ k, k = bT ∨ v.ownBlock = some k ∨ F k → k < W.heap.size := fun k hk => by
  rcases hk with rfl | hk | hk
  · exact h.hd.lt
  · exact (h.row.ownlt hk).2
  · exact h.lt k hk
theorem Tc.later (h : Tc W bT F v L n) (hb : Below W.heap.size W V) : Tc V bT F v L n := h.keep (fun k hk => hb.block k (h.all_lt k hk)) hb.size
/-- the header alone turns -/
theorem Tc.head (h : Tc W bT F v L n) {n' : Int} (hx : Th V bT v n') (hk : ∀ k, k ≠ bT → V.heap[k]? = W.heap[k]?) (hs : W.heap.size ≤ V.heap.size) : Tc V bT F v L n' :=
  ⟨hx, h.row.holdP fun k hb => hk k (h.ne k hb), h.ne, fun q hq => (h.en q hq).keep fun k hF => hk k (h.dis k hF).2, fun k hF => Nat.lt_of_lt_of_le (h.lt k hF) hs, h.dis⟩
theorem Tc.setN (h : Tc W bT F v L n) (n' : Int) : Tc (W.setCell ⟨bT, 1, none⟩ (.int .i64 n')) bT F v L n' :=
  h.head (h.hd.setN n') (fun k hk => heap_setCell_other W ⟨bT, 1, none⟩ k _ hk) (by rw [World.size_setCell]; exact Nat.le_refl _)
theorem Tc.dok (h : Tc W bT F v L n) : ∀ x ∈ ptP L, Go.Proofs.Ytieednadbcghjaa.dok x.dg := fun x hx => by
  obtain ⟨q, hq, rfl⟩ := List.mem_map.1 hx
  exact (h.en q hq).dk
theorem Th.chg (h : Th W bT v n) (j : Nat) (u : Value) : Chg (fun k => k = bT) W (W.setCell ⟨bT, j, none⟩ u) := by
  rw [setCell_eq_setRow W bT j _ _ _ _ h]
  exact ⟨setRow_os _ _ _, setRow_tape _ _ _, setRow_output _ _ _, by rw [setRow_size]; exact Nat.le_refl _, fun k _ hk => setRow_other W bT k _ hk⟩
end
/-- a table that holds L -/
def TgB (W : World) (bT : Nat) (F : Nat → Prop) (v : Value) (L : List Pt) : Prop := ∃ Ls, Tc W bT F v Ls (cntT L : Int) ∧ ptP Ls = L ∧ rowT L
/-- what an operation leaves -/
def OpT (w : World) (bT : Nat) (F : Nat → Prop) (v : Value) (L : List Pt) (e : Ending) (w' : World) : Prop :=
  ∃ v' F', e = .returned (.tuple #[]) ∧ TgB w' bT F' v' L ∧ Chg (fun k => k = bT ∨ v.ownBlock = some k) w w' ∧ (∀ b, v'.ownBlock = some b → v.ownBlock = some b ∨ w.heap.size ≤ b) ∧ ∀ b, F' b → F b ∨ w.heap.size ≤ b
end Go.Proofs.Ytieednadbcghjaa

namespace Go.Proofs.Ytieednadbcghjaa
set_option linter.unusedVariables false
open Go.RowKit Go.Lib

def wdA : Wq := ⟨1, 0, lvS, ⟨#[]⟩, 9, 1, 0, 0⟩
def wdB : Wq := ⟨5, 0, lvS, ⟨#[]⟩, 0, 2, 0, 0⟩
theorem built_dg1 : Try.prog.built 29 [(0, .int .u8 1)] = some (bcs lvS) := by kernel_rfl
theorem built_lc (x : Int) : Try.prog.built 31 [(0, .int .i64 x)] = some (lcA x 0 0) := by kernel_rfl
theorem built_wdA : Try.prog.built 33 [(0, .int .i64 1), (2, .agg (bcs lvS)), (4, .int .i64 9), (5, .agg (lcA 1 0 0))] = some (mixC wdA.a wdA.dg wdA.t) := by kernel_rfl
theorem built_wdB : Try.prog.built 33 [(0, .int .i64 5), (2, .agg (bcs lvS)), (5, .agg (lcA 2 0 0))] = some (mixC wdB.a wdB.dg wdB.t) := by kernel_rfl
end Go.Proofs.Ytieednadbcghjaa
