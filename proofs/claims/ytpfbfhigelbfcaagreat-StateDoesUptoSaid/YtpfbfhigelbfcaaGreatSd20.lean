/- Layer 22, the program: a state in memory; Layer 22, the program: Digest, Tag, List, Names, Count. (gen_stzs.py) -/
import Derived.Test.YtpfbfhigelbfcaaGreatSd8
import Derived.Test.YtpfbfhigelbfcaaGreatSd19
set_option linter.unusedSimpArgs false
set_option linter.unusedVariables false
namespace Go.Proofs.YtpfbfhigelbfcaaGreat
open Go.RowKit Go.Lib
/-- block B is a state: its index, its names, its map of loads -/
def Hst (W : World) (B : Nat) (vi vt : Value) (M : Nat) : Prop := W.heap[B]? = some (.cells #[vi, vt, .map (some M)] 95 (0, 0))
theorem Hst.cells {W : World} {B M : Nat} {vi vt : Value} (h : Hst W B vi vt M) : W.cell? ⟨B, 0, none⟩ = some vi ∧ W.cell? ⟨B, 1, none⟩ = some vt ∧ W.cell? ⟨B, 2, none⟩ = some (.map (some M)) :=
 ⟨cell_of_row _ _ 0 _ _ _ h, cell_of_row _ _ 1 _ _ _ h, cell_of_row _ _ 2 _ _ _ h⟩
theorem Hst.frozen {W : World} {B M : Nat} {vi vt : Value} (h : Hst W B vi vt M) (j : Nat) : W.frozen? ⟨B, j, none⟩ = false := frozen_of_row W B j _ _ h
theorem Hst.same {W V : World} {B M : Nat} {vi vt : Value} (h : Hst W B vi vt M) (hb : V.heap[B]? = W.heap[B]?) : Hst V B vi vt M := hb.trans h
theorem Hst.lt {W : World} {B M : Nat} {vi vt : Value} (h : Hst W B vi vt M) : B < W.heap.size := (Array.getElem?_eq_some_iff.1 h).1
theorem Hst.put {W : World} {B M : Nat} {vi vt : Value} (h : Hst W B vi vt M) (N : Nat) : Hst (W.setCell ⟨B, 2, none⟩ (.map (some N))) B vi vt N := heap_setCell_same W B 2 _ _ _ h
section
variable (Ix : World → (Nat → Prop) → (Nat → Prop) → Value → List Pe → Prop) (Tx : World → (Nat → Prop) → (Nat → Prop) → Value → List Pt → Prop)
/-- a state, its parts in blocks of their own -/
structure Sz0 (w : World) (B M n : Nat) (vi vt : Value) (SI FI ST FT : Nat → Prop) (x : Ps) : Prop where
 h : Hst w B vi vt M
 i : Ix w SI FI vi x.D
 t : Tx w ST FT vt x.T
 m : Mj w M n (getL x.L)
 nb : ∀ b, SI b ∨ FI b ∨ ST b ∨ FT b → b ≠ B ∧ b ≠ M
 si : ∀ b, SI b → ¬ ST b ∧ ¬ FT b
 st : ∀ b, ST b → ¬ FI b
 r : rowL x.L
 inn : x.In
def Sx0 (w : World) (S F : Nat → Prop) (v : Value) (x : Ps) : Prop := ∃ B M n vi vt SI FI ST FT, v = .pointer (some ⟨B, 0, none⟩) ∧ Sz0 Ix Tx w B M n vi vt SI FI ST FT x ∧ (∀ b, S b ↔ b = B ∨ b = M ∨ SI b ∨ ST b) ∧ (∀ b, F b ↔ FI b ∨ FT b)
end
section
variable {Ix : World → (Nat → Prop) → (Nat → Prop) → Value → List Pe → Prop} {Tx : World → (Nat → Prop) → (Nat → Prop) → Value → List Pt → Prop}
theorem Sz0.bm {w : World} {B M n : Nat} {vi vt : Value} {SI FI ST FT : Nat → Prop} {x : Ps} (h : Sz0 Ix Tx w B M n vi vt SI FI ST FT x) : B ≠ M := fun e => by
 subst e
 exact h.m.noCells h.h
theorem Sz0.keep (hI : IdxOk Ix) (hT : TagOk Tx) {w w' : World} {B M n : Nat} {vi vt : Value} {SI FI ST FT : Nat → Prop} {x : Ps} (h : Sz0 Ix Tx w B M n vi vt SI FI ST FT x) (hk : ∀ b, b = B ∨ b = M ∨ SI b ∨ FI b ∨ ST b ∨ FT b → w'.heap[b]? = w.heap[b]?) (hs : w.heap.size ≤ w'.heap.size) : Sz0 Ix Tx w' B M n vi vt SI FI ST FT x :=
 ⟨h.h.same (hk B (Or.inl rfl)), hI.keep h.i (fun b hb => hk b (hb.elim (fun e => Or.inr (Or.inr (Or.inl e))) (fun e => Or.inr (Or.inr (Or.inr (Or.inl e)))))) hs,
  hT.keep h.t (fun b hb => hk b (hb.elim (fun e => Or.inr (Or.inr (Or.inr (Or.inr (Or.inl e))))) (fun e => Or.inr (Or.inr (Or.inr (Or.inr (Or.inr e))))))) hs,
  h.m.same (hk M (Or.inr (Or.inl rfl))), h.nb, h.si, h.st, h.r, h.inn⟩
theorem Sz0.lt (hI : IdxOk Ix) (hT : TagOk Tx) {w : World} {B M n : Nat} {vi vt : Value} {SI FI ST FT : Nat → Prop} {x : Ps} (h : Sz0 Ix Tx w B M n vi vt SI FI ST FT x) (b : Nat) (hb : b = B ∨ b = M ∨ SI b ∨ FI b ∨ ST b ∨ FT b) : b < w.heap.size := by
 rcases hb with rfl | rfl | hb | hb | hb | hb
 ·exact h.h.lt
 ·exact h.m.lt
 ·exact hI.lt h.i b (Or.inl hb)
 ·exact hI.lt h.i b (Or.inr hb)
 ·exact hT.lt h.t b (Or.inl hb)
 ·exact hT.lt h.t b (Or.inr hb)
theorem Sz0.later (hI : IdxOk Ix) (hT : TagOk Tx) {w w' : World} {B M n : Nat} {vi vt : Value} {SI FI ST FT : Nat → Prop} {x : Ps} (h : Sz0 Ix Tx w B M n vi vt SI FI ST FT x) (hb : Below w.heap.size w w') : Sz0 Ix Tx w' B M n vi vt SI FI ST FT x :=
 h.keep hI hT (fun b hb2 => hb.block b (h.lt hI hT b hb2)) hb.size
theorem Sz0.ok (hI : IdxOk Ix) (hT : TagOk Tx) {w : World} {B M n : Nat} {vi vt : Value} {SI FI ST FT : Nat → Prop} {x : Ps} (h : Sz0 Ix Tx w B M n vi vt SI FI ST FT x) : x.Ok ∧ (∀ y ∈ x.D, dok y.dg) ∧ (∀ y ∈ x.T, dok y.dg) ∧ x.In :=
 ⟨⟨(hI.ok h.i).1, fun y hy => ((hI.ok h.i).2 y hy).1, (hT.ok h.t).1, fun y hy => ((hT.ok h.t).2 y hy).1, h.r⟩, (hI.ok h.i).2, (hT.ok h.t).2, h.inn⟩
end
variable {Ix : World → (Nat → Prop) → (Nat → Prop) → Value → List Pe → Prop} {Tx : World → (Nat → Prop) → (Nat → Prop) → Value → List Pt → Prop}
theorem SlOk.mk3 {p : Option Addr} {n c : Nat} (h1 : p = none → c = 0) (h2 : n ≤ c) (h3 : c ≤ maxLen) : SlOk p n c := ⟨h1, h2, h3⟩
end Go.Proofs.YtpfbfhigelbfcaaGreat

