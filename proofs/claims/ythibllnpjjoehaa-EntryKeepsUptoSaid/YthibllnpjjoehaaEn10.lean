/- Layer 19: entries as they lie in memory; Layer 19: entries of names as they lie in memory; Two words whose digest begins with 1 -/
import Derived.Test.YthibllnpjjoehaaEn2
import Derived.Test.YthibllnpjjoehaaEn6
import Derived.Test.YthibllnpjjoehaaEn7
import Derived.Test.YthibllnpjjoehaaEn9
set_option linter.unusedSimpArgs false
set_option linter.unusedVariables false
namespace Go.Proofs.Ythibllnpjjoehaa
set_option linter.unusedVariables false
open Go.RowKit Go.Lib

/-- a slice that reads as these numbers -/
def Is (W : World) (s : Value) (L : List Int) : Prop := ∃ p c, s = .slice p L.length c ∧ Gs encI W p L.length L ∧ (p = none → c = 0) ∧ L.length ≤ c ∧ c ≤ maxLen
theorem Is.later {W W' : World} {s : Value} {L : List Int} (h : Is W s L) (hb : Below W.heap.size W W') : Is W' s L := by
  obtain ⟨p, c, h1, h2, h3⟩ := h
  exact ⟨p, c, h1, h2.later hb, h3⟩
theorem Is.nil (W : World) : Is W (.slice none 0 0) [] := ⟨none, 0, rfl, Gs.empty _ _ _, fun _ => rfl, Nat.le_refl _, by unfold maxLen; decide⟩
theorem Is.lit1 (W : World) (a : Int) : Is (W.alloc (.cells #[.int .i64 a] 3)) (.slice (some ⟨W.heap.size, 0, none⟩) 1 1) [a] := ⟨_, 1, rfl, Gs.one encI W a #[.int .i64 a] rfl 3 (0, 0), by simp, Nat.le_refl _, by unfold maxLen; decide⟩
theorem Is.lit2 (W : World) (a b : Int) : Is (W.alloc (.cells #[.int .i64 a, .int .i64 b] 3)) (.slice (some ⟨W.heap.size, 0, none⟩) 2 2) [a, b] := by
  have h := heap_alloc_new W (.cells #[.int .i64 a, .int .i64 b] 3)
  refine ⟨_, 2, rfl, ⟨rfl, Or.inr ⟨W.heap.size, 0, rfl, fun j hj i u hu => ?_⟩⟩, by simp, Nat.le_refl _, by unfold maxLen; decide⟩
  have hj2 : j < 2 := hj
  have hi : i < 1 := (List.getElem?_eq_some_iff.1 hu).1
  obtain rfl : i = 0 := by omega
  match j, hj2, hu with
  | 0, _, hu => rw [show 0 + 0 * encI.k + 0 = 0 from rfl, cell_of_row _ _ 0 _ _ _ h]; exact hu
  | 1, _, hu => rw [show 0 + 1 * encI.k + 0 = 1 from rfl, cell_of_row _ _ 1 _ _ _ h]; exact hu
theorem Gw.is {W : World} {B : Nat} {v : Value} {L : List Int} (h : Gw encI W B v L) : Is W v L := by
  have h' := h
  obtain ⟨hl, h2⟩ := h
  rcases h2 with ⟨rfl, h0⟩ | ⟨g, cap, cur, rfl, hB, hg, hn, hm, hs, ht⟩
  · obtain rfl := List.length_eq_zero_iff.1 h0
    exact Is.nil W
  · exact ⟨_, cap, rfl, h'.gs, by simp, hn, hm⟩
def Pe.t (x : Pe) (s : Value) : List Value := [.int .i64 x.k, .int .i64 x.z, .int .i64 x.seg, .int .i64 x.off, .int .i64 x.len, s]
def enC (x : Pe) (s : Value) : Array Value := mixC [] x.dg (x.t s)
def enV (x : Pe) (s : Value) : Value := .agg (enC x s)
/-- block b holds an entry -/
def Em (w : World) (b : Nat) (x : Pe) (s : Value) : Prop := Mx w b 28 [] x.dg (x.t s)
theorem sizeEn : (Try.prog.info? 28).map (·.size) = some 38 := by kernel_rfl
theorem enC_size (x : Pe) (s : Value) (hd : x.dg.length = 32) : (enC x s).size = 38 := by unfold enC; rw [mixC_size, hd]; rfl
theorem enC_sizeOf (x : Pe) (s : Value) (hd : x.dg.length = 32) : (Try.prog.info? 28).map (·.size) = some (enC x s).size := by rw [enC_size x s hd]; exact sizeEn
theorem enC_one (x : Pe) (p : Option Addr) (n c : Nat) : (enC x (.slice p n c)).all (·.oneCell') = true := mixC_one (by simp) (by simp [Pe.t, Value.oneCell'])
theorem Em.later {w w' : World} {b : Nat} {x : Pe} {s : Value} (h : Em w b x s) (hb : Below w.heap.size w w') : Em w' b x s := Mx.later h hb
theorem Em.load {w : World} {b : Nat} {x : Pe} {s : Value} (h : Em w b x s) (hd : x.dg.length = 32) : (Instr.loadAt 28 (.pointer (some ⟨b, 0, none⟩))).run Try.prog w = .ok (.agg (enC x s)) w := Mx.load h _ Try.underlying28 rfl (enC_sizeOf x s hd)
theorem sizeD32 : (Try.prog.info? 23).map (·.size) = some 32 := by kernel_rfl
theorem sizeL3 : (Try.prog.info? 25).map (·.size) = some 3 := by kernel_rfl
theorem Em.dig {w : World} {b : Nat} {x : Pe} {s : Value} (h : Em w b x s) (hd : x.dg.length = 32) : (Instr.loadAt 23 (.pointer (some ⟨b, 0, none⟩))).run Try.prog w = .ok (.agg (bcs x.dg)) w :=
  Mx.loadDig h _ Try.underlying23 rfl (by rw [hd]; exact sizeD32) 0 rfl
theorem Wm.dig {w : World} {b : Nat} {x : Wq} (h : Wm w b x) (hd : x.dg.length = 32) : (Instr.loadAt 23 (.pointer (some ⟨b, 2, none⟩))).run Try.prog w = .ok (.agg (bcs x.dg)) w :=
  Mx.loadDig h _ Try.underlying23 rfl (by rw [hd]; exact sizeD32) 2 rfl
def lcA (seg off len : Int) : Array Value := #[.int .i64 seg, .int .i64 off, .int .i64 len]
/-- three cells of the last part of a struct with a digest: a place -/
theorem Mx.loc {w : World} {b : Nat} {t : TypeId} {a z : List Value} {dg : List Int} (h : Mx w b t a dg z) (hd : dg.length = 32) (k j : Nat) (hk : k = a.length + 32 + j) {x y u : Int} (h0 : z[j]? = some (.int .i64 x)) (h1 : z[j + 1]? = some (.int .i64 y)) (h2 : z[j + 2]? = some (.int .i64 u)) :
    (Instr.loadAt 25 (.pointer (some ⟨b, k, none⟩))).run Try.prog w = .ok (.agg (lcA x y u)) w := by
  subst hk
  refine run_loadAt_mid w b _ _ [.int .i64 x, .int .i64 y, .int .i64 u] _ (fun i v hv => ?_) Try.underlying25 rfl (by exact sizeL3)
  match i, hv with
  | 0, hv =>
    simp only [List.getElem?_cons_zero, Option.some.injEq] at hv
    rw [← hv]
    exact Mx.last h hd j _ h0
  | 1, hv =>
    simp only [List.getElem?_cons_succ, List.getElem?_cons_zero, Option.some.injEq] at hv
    rw [← hv, Nat.add_assoc]
    exact Mx.last h hd (j + 1) _ h1
  | 2, hv =>
    simp only [List.getElem?_cons_succ, List.getElem?_cons_zero, Option.some.injEq] at hv
    rw [← hv, Nat.add_assoc]
    exact Mx.last h hd (j + 2) _ h2
  | n + 3, hv => simp at hv
/-- the cells of an entry that are read one by one -/
theorem Em.cells {w : World} {b : Nat} {x : Pe} {s : Value} (h : Em w b x s) (hd : x.dg.length = 32) : w.cell? ⟨b, 32, none⟩ = some (.int .i64 x.k) ∧ w.cell? ⟨b, 33, none⟩ = some (.int .i64 x.z) ∧ w.cell? ⟨b, 34, none⟩ = some (.int .i64 x.seg) ∧ w.cell? ⟨b, 37, none⟩ = some s :=
  ⟨Mx.last h hd 0 _ rfl, Mx.last h hd 1 _ rfl, Mx.last h hd 2 _ rfl, Mx.last h hd 5 _ rfl⟩
theorem Wm.cells5 {w : World} {b : Nat} {x : Wq} (h : Wm w b x) (hd : x.dg.length = 32) : w.cell? ⟨b, 0, none⟩ = some (.int .i64 x.k) ∧ w.cell? ⟨b, 34, none⟩ = some (.string x.nm) ∧ w.cell? ⟨b, 35, none⟩ = some (.int .i64 x.z) ∧ w.cell? ⟨b, 36, none⟩ = some (.int .i64 x.seg) :=
  ⟨Mx.first h 0 _ rfl, Mx.last h hd 0 _ rfl, Mx.last h hd 1 _ rfl, Mx.last h hd 2 _ rfl⟩
theorem Em.loc {w : World} {b : Nat} {x : Pe} {s : Value} (h : Em w b x s) (hd : x.dg.length = 32) : (Instr.loadAt 25 (.pointer (some ⟨b, 34, none⟩))).run Try.prog w = .ok (.agg (lcA x.seg x.off x.len)) w := Mx.loc h hd 34 2 rfl rfl rfl rfl
theorem Wm.loc {w : World} {b : Nat} {x : Wq} (h : Wm w b x) (hd : x.dg.length = 32) : (Instr.loadAt 25 (.pointer (some ⟨b, 36, none⟩))).run Try.prog w = .ok (.agg (lcA x.seg x.off x.len)) w := Mx.loc h hd 36 2 rfl rfl rfl rfl
/-- what a function answers out of a block -/
theorem Em.res1 {fn : Func} {p : Tmp} {w : World} {g : Nat} {x : Pe} {s : Value} (hg : Em w g x s) (hd : x.dg.length = 32) (h : fn.results = #[.cell p 28]) (tmps : Array Value)
    (hp : tmps.getD p undef = .pointer (some ⟨g, 0, none⟩)) : (Go.results fn tmps).run Try.prog w = .ok (enV x s) w :=
  results_cell_row h tmps w g _ _ _ _ hp hg Try.underlying28 rfl (enC_sizeOf x s hd)
theorem Em.res2 {fn : Func} {p u : Tmp} {w : World} {g : Nat} {x : Pe} {s : Value} (hg : Em w g x s) (hd : x.dg.length = 32) (h : fn.results = #[.cell p 28, .tmp u]) (tmps : Array Value)
    (hp : tmps.getD p undef = .pointer (some ⟨g, 0, none⟩)) : (Go.results fn tmps).run Try.prog w = .ok (.tuple #[enV x s, tmps.getD u undef]) w := by
  rw [results_cell_tmp h, hp]
  simp only [asAddr, Sem.run_pure, Result.andThen]
  rw [run_loadVar_mid w g 0 28 _ _ (Mx.range hg) Try.underlying28 rfl (by rw [mixL_length, hd]; exact sizeEn)]
  rfl
theorem enZero : enC zeroE (.slice none 0 0) = #[.int .u8 0, .int .u8 0, .int .u8 0, .int .u8 0, .int .u8 0, .int .u8 0, .int .u8 0, .int .u8 0, .int .u8 0, .int .u8 0, .int .u8 0, .int .u8 0, .int .u8 0, .int .u8 0, .int .u8 0, .int .u8 0, .int .u8 0, .int .u8 0, .int .u8 0, .int .u8 0, .int .u8 0, .int .u8 0, .int .u8 0, .int .u8 0, .int .u8 0, .int .u8 0, .int .u8 0, .int .u8 0, .int .u8 0, .int .u8 0, .int .u8 0, .int .u8 0, .int .i64 0, .int .i64 0, .int .i64 0, .int .i64 0, .int .i64 0, .slice none 0 0] := rfl
end Go.Proofs.Ythibllnpjjoehaa

namespace Go.Proofs.Ythibllnpjjoehaa
set_option linter.unusedVariables false
open Go.RowKit Go.Lib

def Pt.a (x : Pt) : List Value := [.string x.nm]
def Pt.t (x : Pt) (s : Value) : List Value := [.bool x.gone, .int .i64 x.seg, .int .i64 x.off, .int .i64 x.len, s]
def tnC (x : Pt) (s : Value) : Array Value := mixC x.a x.dg (x.t s)
def tnV (x : Pt) (s : Value) : Value := .agg (tnC x s)
def Tn (w : World) (b : Nat) (x : Pt) (s : Value) : Prop := Mx w b 30 x.a x.dg (x.t s)
theorem sizeTn : (Try.prog.info? 30).map (·.size) = some 38 := by kernel_rfl
theorem tnC_size (x : Pt) (s : Value) (hd : x.dg.length = 32) : (tnC x s).size = 38 := by unfold tnC; rw [mixC_size, hd]; rfl
theorem tnC_sizeOf (x : Pt) (s : Value) (hd : x.dg.length = 32) : (Try.prog.info? 30).map (·.size) = some (tnC x s).size := by rw [tnC_size x s hd]; exact sizeTn
theorem tnC_one (x : Pt) (p : Option Addr) (n c : Nat) : (tnC x (.slice p n c)).all (·.oneCell') = true := mixC_one (by simp [Pt.a, Value.oneCell']) (by simp [Pt.t, Value.oneCell'])
theorem Tn.later {w w' : World} {b : Nat} {x : Pt} {s : Value} (h : Tn w b x s) (hb : Below w.heap.size w w') : Tn w' b x s := Mx.later h hb
theorem Tn.load {w : World} {b : Nat} {x : Pt} {s : Value} (h : Tn w b x s) (hd : x.dg.length = 32) : (Instr.loadAt 30 (.pointer (some ⟨b, 0, none⟩))).run Try.prog w = .ok (.agg (tnC x s)) w := Mx.load h _ Try.underlying30 rfl (tnC_sizeOf x s hd)
theorem Tn.dig {w : World} {b : Nat} {x : Pt} {s : Value} (h : Tn w b x s) (hd : x.dg.length = 32) : (Instr.loadAt 23 (.pointer (some ⟨b, 1, none⟩))).run Try.prog w = .ok (.agg (bcs x.dg)) w :=
  Mx.loadDig h _ Try.underlying23 rfl (by rw [hd]; exact sizeD32) 1 rfl
theorem Tn.cells {w : World} {b : Nat} {x : Pt} {s : Value} (h : Tn w b x s) (hd : x.dg.length = 32) : w.cell? ⟨b, 0, none⟩ = some (.string x.nm) ∧ w.cell? ⟨b, 33, none⟩ = some (.bool x.gone) ∧ w.cell? ⟨b, 34, none⟩ = some (.int .i64 x.seg) ∧ w.cell? ⟨b, 37, none⟩ = some s :=
  ⟨Mx.first h 0 _ rfl, Mx.last h hd 0 _ rfl, Mx.last h hd 1 _ rfl, Mx.last h hd 4 _ rfl⟩
theorem Tn.loc {w : World} {b : Nat} {x : Pt} {s : Value} (h : Tn w b x s) (hd : x.dg.length = 32) : (Instr.loadAt 25 (.pointer (some ⟨b, 34, none⟩))).run Try.prog w = .ok (.agg (lcA x.seg x.off x.len)) w := Mx.loc h hd 34 1 rfl rfl rfl rfl
theorem Tn.res1 {fn : Func} {p : Tmp} {w : World} {g : Nat} {x : Pt} {s : Value} (hg : Tn w g x s) (hd : x.dg.length = 32) (h : fn.results = #[.cell p 30]) (tmps : Array Value)
    (hp : tmps.getD p undef = .pointer (some ⟨g, 0, none⟩)) : (Go.results fn tmps).run Try.prog w = .ok (tnV x s) w :=
  results_cell_row h tmps w g _ _ _ _ hp hg Try.underlying30 rfl (tnC_sizeOf x s hd)
theorem Tn.res2 {fn : Func} {p u : Tmp} {w : World} {g : Nat} {x : Pt} {s : Value} (hg : Tn w g x s) (hd : x.dg.length = 32) (h : fn.results = #[.cell p 30, .tmp u]) (tmps : Array Value)
    (hp : tmps.getD p undef = .pointer (some ⟨g, 0, none⟩)) : (Go.results fn tmps).run Try.prog w = .ok (.tuple #[tnV x s, tmps.getD u undef]) w := by
  rw [results_cell_tmp h, hp]
  simp only [asAddr, Sem.run_pure, Result.andThen]
  rw [run_loadVar_mid w g 0 30 _ _ (Mx.range hg) Try.underlying30 rfl (by rw [mixL_length, hd]; exact sizeTn)]
  rfl
theorem tnZero : tnC zeroT (.slice none 0 0) = #[.string ⟨#[]⟩, .int .u8 0, .int .u8 0, .int .u8 0, .int .u8 0, .int .u8 0, .int .u8 0, .int .u8 0, .int .u8 0, .int .u8 0, .int .u8 0, .int .u8 0, .int .u8 0, .int .u8 0, .int .u8 0, .int .u8 0, .int .u8 0, .int .u8 0, .int .u8 0, .int .u8 0, .int .u8 0, .int .u8 0, .int .u8 0, .int .u8 0, .int .u8 0, .int .u8 0, .int .u8 0, .int .u8 0, .int .u8 0, .int .u8 0, .int .u8 0, .int .u8 0, .int .u8 0, .bool false, .int .i64 0, .int .i64 0, .int .i64 0, .slice none 0 0] := rfl

end Go.Proofs.Ythibllnpjjoehaa

namespace Go.Proofs.Ythibllnpjjoehaa
set_option linter.unusedVariables false
open Go.RowKit Go.Lib

def wdA : Wq := ⟨1, 0, lvS, ⟨#[]⟩, 9, 1, 0, 0⟩
def wdB : Wq := ⟨5, 0, lvS, ⟨#[]⟩, 0, 2, 0, 0⟩
theorem built_dg1 : Try.prog.built 23 [(0, .int .u8 1)] = some (bcs lvS) := by kernel_rfl
theorem built_lc (x : Int) : Try.prog.built 25 [(0, .int .i64 x)] = some (lcA x 0 0) := by kernel_rfl
theorem built_wdA : Try.prog.built 33 [(0, .int .i64 1), (2, .agg (bcs lvS)), (4, .int .i64 9), (5, .agg (lcA 1 0 0))] = some (mixC wdA.a wdA.dg wdA.t) := by kernel_rfl
theorem built_wdB : Try.prog.built 33 [(0, .int .i64 5), (2, .agg (bcs lvS)), (5, .agg (lcA 2 0 0))] = some (mixC wdB.a wdB.dg wdB.t) := by kernel_rfl
end Go.Proofs.Ythibllnpjjoehaa
