/- Layer 12: worlds that are alike but for two blocks of which nothing is read as bytes, names or changes -/
import Derived.Test.YtncbgddgkpaoeaaGreatDd11
import Derived.Test.YtncbgddgkpaoeaaGreatDd13
import Derived.Test.YtncbgddgkpaoeaaGreatDd14
set_option linter.unusedSimpArgs false
set_option linter.unusedVariables false
namespace Go.Proofs.YtncbgddgkpaoeaaGreat
set_option linter.unusedVariables false
open Go.RowKit Go.Lib

/-- nothing has turned but blocks D and M, and what is new -/
structure Kp (D M : Nat) (w w' : World) : Prop where
  os : w'.os = w.os
  tape : w'.tape = w.tape
  output : w'.output = w.output
  size : w.heap.size ≤ w'.heap.size
  block : ∀ k, k < w.heap.size → k ≠ D → k ≠ M → w'.heap[k]? = w.heap[k]?
theorem Kp.refl (D M : Nat) (w : World) : Kp D M w w := ⟨rfl, rfl, rfl, Nat.le_refl _, fun _ _ _ _ => rfl⟩
theorem Kp.trans {D M : Nat} {a b c : World} (h : Kp D M a b) (k : Kp D M b c) : Kp D M a c :=
  ⟨k.os.trans h.os, k.tape.trans h.tape, k.output.trans h.output, Nat.le_trans h.size k.size, fun i hi h1 h2 => (k.block i (Nat.lt_of_lt_of_le hi h.size) h1 h2).trans (h.block i hi h1 h2)⟩
theorem Kp.of_below {D M : Nat} {w w' : World} (h : Below w.heap.size w w') : Kp D M w w' := ⟨h.os, h.tape, h.output, h.size, fun k hk _ _ => h.block k hk⟩
theorem Kp.then_below {D M : Nat} {a b c : World} (h : Kp D M a b) (k : Below b.heap.size b c) : Kp D M a c := h.trans (Kp.of_below k)
theorem Kp.below {D M B : Nat} {w w' : World} (h : Kp D M w w') (hB : B ≤ w.heap.size) (hD : B ≤ D) (hM : B ≤ M) : Below B w w' :=
  ⟨h.os, h.tape, h.output, h.size, fun k hk => h.block k (by omega) (by omega) (by omega)⟩
theorem Kp.onto {D M B : Nat} {a w w' : World} (h : Kp D M w w') (hb : Below B a w) (hB : B ≤ w.heap.size) (hD : B ≤ D) (hM : B ≤ M) : Below B a w' := hb.trans (h.below hB hD hM)
theorem Kp.alloc {D M : Nat} {a w : World} (h : Kp D M a w) (o : Obj) : Kp D M a (w.alloc o) := h.then_below ((Below.refl _ _).alloc (Nat.le_refl _) _)
theorem Kp.drew {D M : Nat} {a w : World} (h : Kp D M a w) : Kp D M a w.drew := h.then_below ((Below.refl _ _).drew)
theorem Kp.drewN {D M : Nat} {a w : World} (h : Kp D M a w) (n : Nat) : Kp D M a (w.drewN n) := h.then_below (below_drewN (Below.refl _ _) n)
theorem Kp.setD {D M : Nat} {a w : World} (h : Kp D M a w) (j : Nat) (v : Value) : Kp D M a (w.setCell ⟨D, j, none⟩ v) :=
  h.trans ⟨rfl, rfl, rfl, by simp [World.setCell], fun k _ h1 _ => Below.heap_setCell _ _ _ _ h1⟩
theorem Kp.setNew {D M : Nat} {a w : World} (h : Kp D M a w) {p : Addr} (hp : a.heap.size ≤ p.block) (v : Value) : Kp D M a (w.setCell p v) :=
  ⟨h.os, h.tape, h.output, Nat.le_trans h.size (by simp [World.setCell]), fun k hk h1 h2 => (Below.heap_setCell _ _ _ _ (by omega)).trans (h.block k hk h1 h2)⟩
theorem Kp.map {D M : Nat} {a w w' : World} (h : Kp D M a w) (hg : w.grownBy w' (some M)) : Kp D M a w' :=
  h.trans ⟨hg.os, hg.tape, hg.output, hg.size, fun k hk _ h2 => hg.block k hk (by simpa using h2)⟩
/-- .. or a block that is new -/
theorem Kp.grown {D M : Nat} {a w w' : World} {row : Option Nat} (h : Kp D M a w) (hg : w.grownBy w' row) (hr : ∀ j, row = some j → a.heap.size ≤ j) : Kp D M a w' :=
  ⟨hg.os.trans h.os, hg.tape.trans h.tape, hg.output.trans h.output, Nat.le_trans h.size hg.size, fun k hk h1 h2 =>
    (hg.block k (Nat.lt_of_lt_of_le hk h.size) (fun e => by have := hr k e.symm; omega)).trans (h.block k hk h1 h2)⟩

/-- a block of which nothing is read as bytes, names or changes -/
def Nix (w : World) (k : Nat) : Prop :=
  (∀ j z, w.cell? ⟨k, j, none⟩ ≠ some (.int .u8 z)) ∧ (∀ j s, w.cell? ⟨k, j, none⟩ ≠ some (.string s)) ∧ (∀ j b p n c, w.cell? ⟨k, j, none⟩ = some (.bool b) → w.cell? ⟨k, j + 2, none⟩ ≠ some (.slice p n c))
theorem Nix.of_map {w : World} {k : Nat} (h : ∀ j u, w.cell? ⟨k, j, none⟩ ≠ some u) : Nix w k := ⟨fun j _ => h j _, fun j _ => h j _, fun j _ _ _ _ h' => absurd h' (h j _)⟩
theorem Nix.later {w w' : World} {k : Nat} (h : Nix w k) (hk : w'.heap[k]? = w.heap[k]?) : Nix w' k := by
  have e : ∀ j, w'.cell? ⟨k, j, none⟩ = w.cell? ⟨k, j, none⟩ := fun j => World.cell?_of_block (w := w) (a := ⟨k, j, none⟩) hk
  exact ⟨fun j z => by rw [e]; exact h.1 j z, fun j z => by rw [e]; exact h.2.1 j z, fun j b p n c hb => by rw [e] at hb ⊢; exact h.2.2 j b p n c hb⟩

theorem Bs.kp {D M : Nat} {w w' : World} {p : Option Addr} {n : Nat} {zs : List Int} (h : Bs w p n zs) (hk : Kp D M w w') (hD : Nix w D) (hM : Nix w M) : Bs w' p n zs := by
  obtain ⟨h1, h2, h3⟩ := h
  refine ⟨h1, h2, ?_⟩
  rcases h3 with h0 | ⟨b, off, hp, hc⟩
  · exact Or.inl h0
  · refine Or.inr ⟨b, off, hp, fun j hj => ?_⟩
    have h4 := hc j hj
    rw [World.cell?_of_block (w := w) (a := ⟨b, off + j, none⟩) (hk.block b (World.block_lt_of_cell? w _ h4) (fun e => hD.1 _ _ (by rw [← e]; exact h4)) (fun e => hM.1 _ _ (by rw [← e]; exact h4)))]
    exact h4
def Ec.named {α : Type} (E : Ec α) : Prop := ∀ x, ∃ (i : Nat) (s : ByteArray), (E.f x)[i]? = some (Value.string s)
theorem namedN : encN.named := fun x => ⟨0, _, rfl⟩
theorem namedC : encC.named := fun x => ⟨1, _, rfl⟩
theorem Gs.kp {α : Type} {E : Ec α} (hE : E.named) {D M : Nat} {w w' : World} {p : Option Addr} {n : Nat} {L : List α} (h : Gs E w p n L) (hk : Kp D M w w') (hD : Nix w D) (hM : Nix w M) : Gs E w' p n L := by
  obtain ⟨h1, h3⟩ := h
  refine ⟨h1, ?_⟩
  rcases h3 with h0 | ⟨b, off, hp, hc⟩
  · exact Or.inl h0
  · refine Or.inr ⟨b, off, hp, fun j hj i u hu => ?_⟩
    obtain ⟨i0, s, hs⟩ := hE (L.getD j E.d)
    have h4 := hc j hj i0 _ hs
    rw [World.cell?_of_block (w := w) (a := ⟨b, off + j * E.k + i, none⟩) (hk.block b (World.block_lt_of_cell? w _ h4) (fun e => hD.2.1 _ _ (by rw [← e]; exact h4)) (fun e => hM.2.1 _ _ (by rw [← e]; exact h4)))]
    exact hc j hj i u hu
theorem Wd.fit_kp {D M : Nat} {w w' : World} {x : Wd} (h : Wd.fit w x) (hk : Kp D M w w') (hD : Nix w D) (hM : Nix w M) : Wd.fit w' x := ⟨h.1.kp hk hD hM, h.2⟩
theorem Ws.kp {D M : Nat} {w w' : World} {p : Option Addr} {n : Nat} {L : List Wd} (h : Ws w p n L) (hk : Kp D M w w') (hD : Nix w D) (hM : Nix w M) : Ws w' p n L := by
  obtain ⟨h1, h2, h3⟩ := h
  refine ⟨h1, fun x hx => Wd.fit_kp (h2 x hx) hk hD hM, ?_⟩
  rcases h3 with h0 | ⟨b, off, hp, hc⟩
  · exact Or.inl h0
  · refine Or.inr ⟨b, off, hp, fun j hj => ?_⟩
    obtain ⟨c0, c1, c2⟩ := hc j hj
    have hkb := hk.block b (World.block_lt_of_cell? w _ c0) (fun e => hD.2.2 _ _ _ _ _ (by rw [← e]; exact c0) (by rw [← e]; exact c2)) (fun e => hM.2.2 _ _ _ _ _ (by rw [← e]; exact c0) (by rw [← e]; exact c2))
    exact ⟨by rw [World.cell?_of_block (a := ⟨b, off + j * 3, none⟩) hkb]; exact c0, by rw [World.cell?_of_block (a := ⟨b, off + j * 3 + 1, none⟩) hkb]; exact c1, by rw [World.cell?_of_block (a := ⟨b, off + j * 3 + 2, none⟩) hkb]; exact c2⟩
theorem Ni.fit.kp {D M : Nat} {w w' : World} {x : Ni} (h : Ni.fit w x) (hk : Kp D M w w') (hD : Nix w D) (hM : Nix w M) : Ni.fit w' x := ⟨h.1.kp hk hD hM, h.2.1, h.2.2.1, h.2.2.2.1.kp hk hD hM, h.2.2.2.2⟩
theorem Fo.fit.kp {D M : Nat} {w w' : World} {x : Fo} (h : Fo.fit w x) (hk : Kp D M w w') (hD : Nix w D) (hM : Nix w M) : Fo.fit w' x := ⟨h.1.kp namedN hk hD hM, h.2.1, h.2.2.1, h.2.2.2.1.kp namedC hk hD hM, h.2.2.2.2⟩
theorem ni0_fit (w : World) : Ni.fit w ni0 := ⟨Bs.empty _ _, fun _ => rfl, Nat.le_refl _, ⟨rfl, by simp [ni0], Or.inl rfl⟩, fun _ => rfl, Nat.le_refl _⟩
theorem ni0_fi : ni0.fi = fi0 := rfl
end Go.Proofs.YtncbgddgkpaoeaaGreat
