/- Layer 12, the reference: its disk in a block; Layer 12, the reference: New, get, Taken, Free; Layer 12, the reference: tidy; Layer 12, the reference: set; Layer 12, the reference: on: Append, Cut, Sync; Layer 12, the reference: Free -/
import Derived.Test.YtncbgddgkpaoeaaGreatDd11
import Derived.Test.YtncbgddgkpaoeaaGreatDd17
import Derived.Test.YtncbgddgkpaoeaaGreatDd18
import Derived.Test.YtncbgddgkpaoeaaGreatDd26
import Derived.Test.YtncbgddgkpaoeaaGreatDd28
import Derived.Deep.RegionLaw
set_option linter.unusedSimpArgs false
set_option linter.unusedVariables false
namespace Go.Proofs.YtncbgddgkpaoeaaGreat
set_option linter.unusedVariables false
open Go.RowKit Go.Lib

/-- a file that is kept: its number, and the file -/
structure Kr where
  id : Int
  x : Ni
def kr0 : Kr := ⟨0, ni0⟩
def Kr.kt (y : Kr) : Kt := ⟨y.id, y.x.fi⟩
def encR : Ec Kr where
  f y := [.int .i64 y.id, .slice y.x.p y.x.n y.x.c, .slice y.x.q y.x.m y.x.d]
  k := 3
  t := 85
  d := kr0
  len _ := rfl
  one x v hv := by
    simp only [List.mem_cons, List.not_mem_nil, or_false] at hv
    rcases hv with rfl | rfl | rfl <;> rfl
  pos := by decide
theorem infoR : (Tryz.prog.info? encR.t).map (fun i => (i.zero, i.size, i.bytes)) = some (some (.agg #[.int .i64 0, .slice none 0 0, .slice none 0 0]), encR.k, 56) := by kernel_rfl
theorem Gs.kr {w : World} {p : Option Addr} {n : Nat} {L : List Kr} (h : Gs encR w p n L) (j : Nat) (hj : j < n) : ∃ b off, p = some ⟨b, off, none⟩ ∧
    w.cell? ⟨b, off + j * 3, none⟩ = some (.int .i64 (L.getD j kr0).id) ∧ w.cell? ⟨b, off + j * 3 + 1, none⟩ = some (.slice (L.getD j kr0).x.p (L.getD j kr0).x.n (L.getD j kr0).x.c) ∧
    w.cell? ⟨b, off + j * 3 + 2, none⟩ = some (.slice (L.getD j kr0).x.q (L.getD j kr0).x.m (L.getD j kr0).x.d) := by
  obtain ⟨b, off, hp, hc⟩ := h.ptr j hj
  exact ⟨b, off, hp, hc 0 _ rfl, hc 1 _ rfl, hc 2 _ rfl⟩
/-- a row that lies elsewhere than what has turned -/
theorem Gs.apart {α : Type} {E : Ec α} {D M : Nat} {w w' : World} {p : Option Addr} {n : Nat} {L : List α} (h : Gs E w p n L) (hk : Kp D M w w') (hs : ∀ a, p = some a → a.block ≠ D ∧ a.block ≠ M) : Gs E w' p n L := by
  obtain ⟨h1, h3⟩ := h
  refine ⟨h1, ?_⟩
  rcases h3 with h0 | ⟨b, off, hp, hc⟩
  · exact Or.inl h0
  · obtain ⟨e1, e2⟩ := hs _ hp
    refine Or.inr ⟨b, off, hp, fun j hj i u hu => ?_⟩
    have h4 := hc j hj i u hu
    rw [World.cell?_of_block (w := w) (a := ⟨b, off + j * E.k + i, none⟩) (hk.block b (World.block_lt_of_cell? w _ h4) e1 e2)]
    exact h4
/-- what an append turns -/
theorem Kp.of_grown {w w' : World} {k : Nat} (hg : w.grownBy w' (some k)) : Kp k k w w' := ⟨hg.os, hg.tape, hg.output, hg.size, fun j hj h _ => hg.block j hj (by simpa using h)⟩
theorem Kp.of_set (w : World) (D j : Nat) (v : Value) : Kp D D w (w.setCell ⟨D, j, none⟩ v) := (Kp.refl _ _ _).setD _ _

/-- the disk's cells; x: its names' slices; p, n, c: the slice of its files -/
def rcells (d : Dk) (x : Fo) (p : Option Addr) (n c : Nat) : Array Value :=
  #[.int .i64 d.lb, .int .i64 d.lf, .slice x.p x.n x.c, .slice x.q x.m x.d, .slice p n c, .int .i64 d.last, .bool d.off, .int .i64 d.fuse, .int .i64 d.calls]
def Rb (w : World) (D : Nat) (d : Dk) (x : Fo) (p : Option Addr) (n c : Nat) : Prop := w.heap[D]? = some (.cells (rcells d x p n c) 83 (0, 0))
structure Rx (w : World) (D : Nat) (d : Dk) (x : Fo) (p : Option Addr) (n c : Nat) (L : List Kr) : Prop where
  b : Rb w D d x p n c
  f : Fo.fit w x
  fd : x.fd = d.F
  s : Gs encR w p n L
  k : L.map Kr.kt = d.K
  i : ∀ y ∈ L, Ni.fit w y.x
  pn : p = none → c = 0
  le : n ≤ c
  sp : ∀ a, p = some a → D < a.block
def Rw (w : World) (D : Nat) (d : Dk) : Prop := ∃ x p n c L, Rx w D d x p n c L
section
variable {w w' : World} {D : Nat} {d : Dk} {x : Fo} {p : Option Addr} {n c : Nat} {L : List Kr}
theorem Rb.cells (h : Rb w D d x p n c) :
    w.cell? ⟨D, 0, none⟩ = some (.int .i64 d.lb) ∧ w.cell? ⟨D, 1, none⟩ = some (.int .i64 d.lf) ∧ w.cell? ⟨D, 2, none⟩ = some (.slice x.p x.n x.c) ∧ w.cell? ⟨D, 3, none⟩ = some (.slice x.q x.m x.d) ∧ w.cell? ⟨D, 4, none⟩ = some (.slice p n c) ∧
    w.cell? ⟨D, 5, none⟩ = some (.int .i64 d.last) ∧ w.cell? ⟨D, 6, none⟩ = some (.bool d.off) ∧ w.cell? ⟨D, 7, none⟩ = some (.int .i64 d.fuse) ∧ w.cell? ⟨D, 8, none⟩ = some (.int .i64 d.calls) := by
  have hc : ∀ j, w.cell? ⟨D, j, none⟩ = (rcells d x p n c)[j]? := fun j => cell_of_row _ _ _ _ _ _ h
  refine ⟨?_, ?_, ?_, ?_, ?_, ?_, ?_, ?_, ?_⟩ <;> (rw [hc]; rfl)
theorem Rb.frozen (h : Rb w D d x p n c) (j : Nat) : w.frozen? ⟨D, j, none⟩ = false := frozen_of_row w D j _ _ h
theorem Rb.lt (h : Rb w D d x p n c) : D < w.heap.size := (Array.getElem?_eq_some_iff.1 h).1
theorem Rb.later (h : Rb w D d x p n c) (hb : Below w.heap.size w w') : Rb w' D d x p n c := by
  unfold Rb; rw [hb.block D h.lt]; exact h
theorem Rb.nix (h : Rb w D d x p n c) : Nix w D := by
  have hc : ∀ j, w.cell? ⟨D, j, none⟩ = (rcells d x p n c)[j]? := fun j => cell_of_row _ _ _ _ _ _ h
  refine ⟨fun j z => ?_, fun j s => ?_, fun j b p n c => ?_⟩
  · rw [hc]
    match j with
    | 0 | 1 | 2 | 3 | 4 | 5 | 6 | 7 | 8 => simp [rcells]
    | j + 9 => simp [rcells]
  · rw [hc]
    match j with
    | 0 | 1 | 2 | 3 | 4 | 5 | 6 | 7 | 8 => simp [rcells]
    | j + 9 => simp [rcells]
  · rw [hc, hc]
    match j with
    | 0 | 1 | 2 | 3 | 4 | 5 | 6 | 7 | 8 => simp [rcells]
    | j + 9 => simp [rcells]
theorem Rb.setFiles (h : Rb w D d x p n c) (q : Option Addr) (m e : Nat) : Rb (w.setCell ⟨D, 4, none⟩ (.slice q m e)) D d x q m e := by
  unfold Rb; rw [heap_setCell_same _ D 4 _ _ _ h]; rfl
theorem Rb.setLast (h : Rb w D d x p n c) (v : Int) : Rb (w.setCell ⟨D, 5, none⟩ (.int .i64 v)) D { d with last := v } x p n c := by
  unfold Rb; rw [heap_setCell_same _ D 5 _ _ _ h]; rfl
theorem Rb.setOff (h : Rb w D d x p n c) (v : Bool) : Rb (w.setCell ⟨D, 6, none⟩ (.bool v)) D { d with off := v } x p n c := by
  unfold Rb; rw [heap_setCell_same _ D 6 _ _ _ h]; rfl
theorem Rb.setFuse (h : Rb w D d x p n c) (v : Int) : Rb (w.setCell ⟨D, 7, none⟩ (.int .i64 v)) D { d with fuse := v } x p n c := by
  unfold Rb; rw [heap_setCell_same _ D 7 _ _ _ h]; rfl
theorem Rb.setCalls (h : Rb w D d x p n c) (v : Int) : Rb (w.setCell ⟨D, 8, none⟩ (.int .i64 v)) D { d with calls := v } x p n c := by
  unfold Rb; rw [heap_setCell_same _ D 8 _ _ _ h]; rfl
theorem Rb.setNames (h : Rb w D d x p n c) (y : Fo) : Rb ((w.setCell ⟨D, 2, none⟩ (.slice y.p y.n y.c)).setCell ⟨D, 3, none⟩ (.slice y.q y.m y.d)) D d y p n c := by
  unfold Rb
  rw [heap_setCell_same _ D 3 _ _ _ (heap_setCell_same _ D 2 _ _ _ h)]; rfl
/-- cells of a disk say the same where only what isn't in them has turned -/
theorem Rb.as {e : Dk} (h : Rb w D d x p n c) (h1 : e.lb = d.lb) (h2 : e.lf = d.lf) (h3 : e.last = d.last) (h4 : e.off = d.off) (h5 : e.fuse = d.fuse) (h6 : e.calls = d.calls) : Rb w D e x p n c := by
  unfold Rb rcells at *
  rw [h1, h2, h3, h4, h5, h6]; exact h
theorem Rx.later (h : Rx w D d x p n c L) (hb : Below w.heap.size w w') : Rx w' D d x p n c L :=
  { h with b := h.b.later hb, f := h.f.later hb, s := h.s.later hb, i := fun y hy => (h.i y hy).later hb }
theorem Rw.later (h : Rw w D d) (hb : Below w.heap.size w w') : Rw w' D d := by
  obtain ⟨x, p, n, c, L, h⟩ := h
  exact ⟨x, p, n, c, L, h.later hb⟩
/-- what lies behind its own block, where blocks ahead of it turn -/
theorem Rx.kp {A B : Nat} (h : Rx w D d x p n c L) (hk : Kp A B w w') (hA : A < D) (hB : B < D) (nA : Nix w A) (nB : Nix w B) : Rx w' D d x p n c L :=
  { h with
    b := by unfold Rb; rw [hk.block D h.b.lt (by omega) (by omega)]; exact h.b
    f := h.f.kp hk nA nB
    s := h.s.apart hk fun a ha => by have := h.sp a ha; omega
    i := fun y hy => (h.i y hy).kp hk nA nB }
/-- .. where its own block turns -/
theorem Rx.own (h : Rx w D d x p n c L) (hk : Kp D D w w') {e : Dk} (hb : Rb w' D e x p n c) (hF : e.F = d.F) (hK : e.K = d.K) : Rx w' D e x p n c L where
  b := hb
  f := h.f.kp hk h.b.nix h.b.nix
  fd := h.fd.trans hF.symm
  s := h.s.apart hk fun a ha => by have := h.sp a ha; omega
  k := h.k.trans hK.symm
  i := fun y hy => (h.i y hy).kp hk h.b.nix h.b.nix
  pn := h.pn
  le := h.le
  sp := h.sp
/-- what the code's disk is where a block turns that is none of its own -/
theorem Dx.beside {A M B : Nat} {fu : Int} {g : Int → Option Ni} (h : Dx w A M d x fu g) (hk : Kp B B w w') (hA : A ≠ B) (hM : M ≠ B) (hMl : M < w.heap.size) (nB : Nix w B) : Dx w' A M d x fu g :=
  { h with b := by rw [hk.block A h.lt hA hA]; exact h.b, f := h.f.kp hk nB nB, m := h.m.same (hk.block M hMl hM hM), n := h.n.kp hk nB nB }
end
end Go.Proofs.YtncbgddgkpaoeaaGreat

namespace Go.Proofs.YtncbgddgkpaoeaaGreat
set_option linter.unusedVariables false
open Go.RowKit Go.Lib

set_option maxRecDepth 100000 in
set_option maxHeartbeats 1000000 in
theorem rnew12_any (lb lf : Int) (w : World) : Calls Tryz.prog 31 #[.agg #[.int .i64 lb, .int .i64 lf]] w fun e w' => ∃ D, e = .returned (.pointer (some ⟨D, 0, none⟩)) ∧ Rx w' D (newD lb lf) fo0 none 0 0 [] ∧ w.heap.size ≤ D ∧ Below w.heap.size w w' := by
  obtain ⟨wA, hA⟩ : ∃ A, w.alloc (.cells #[.int .i64 lb, .int .i64 lf] 23) = A := ⟨_, rfl⟩
  obtain ⟨wD, hD⟩ : ∃ A, wA.alloc (.cells #[.int .i64 lb, .int .i64 lf, .slice none 0 0, .slice none 0 0, .slice none 0 0, .int .i64 0, .bool false, .int .i64 (-1), .int .i64 0] 83) = A := ⟨_, rfl⟩
  obtain ⟨D, hDs⟩ : ∃ G, wA.heap.size = G := ⟨_, rfl⟩
  have hBA : Below w.heap.size w wA := by rw [← hA]; exact (Below.refl _ _).alloc (Nat.le_refl _) _
  have hBD : Below wA.heap.size wA wD := by rw [← hD]; exact (Below.refl _ _).alloc (Nat.le_refl _) _
  have l0 : wA.cell? ⟨w.heap.size, 0, none⟩ = some (.int .i64 lb) := by rw [← hA, cell_of_row _ _ _ _ _ _ (heap_alloc_new _ _)]; rfl
  have l1 : wA.cell? ⟨w.heap.size, 1, none⟩ = some (.int .i64 lf) := by rw [← hA, cell_of_row _ _ _ _ _ _ (heap_alloc_new _ _)]; rfl
  have HBD : Hid (Below w.heap.size w wD) := Lib.hid (below_step hBA hBD)
  have HX : Hid (Rx wD D (newD lb lf) fo0 none 0 0 []) := Lib.hid ⟨by unfold Rb; rw [← hD, ← hDs]; exact heap_alloc_new _ _, fo0_fit _, rfl, Gs.empty _ _ _, rfl, (fun y hy => by cases hy), fun _ => rfl, Nat.le_refl _, fun a ha => by cases ha⟩
  have HL : Hid (w.heap.size ≤ D) := Lib.hid (by rw [← hDs]; exact hBA.size)
  clear hBA hBD
  go_enter Tryz.func31, Tryz.ntmps31
  go_wp2
  go_ret
  exact ⟨D, rfl, HX.out, HL.out, HBD.out⟩

theorem getK_first {L : List Kr} {i : Int} : ∀ {k : Nat}, k < L.length → (∀ j, j < k → (L.getD j kr0).id ≠ i) → (L.getD k kr0).id = i → getK (L.map Kr.kt) i = some (L.getD k kr0).x.fi := by
  induction L with
  | nil => intro k hk; exact absurd hk (Nat.not_lt_zero _)
  | cons y L ih =>
    intro k hk hn he
    rw [List.map_cons, getK]
    show (if y.id = i then some y.x.fi else _) = _
    match k with
    | 0 => rw [if_pos (show y.id = i from he)]; rfl
    | k + 1 =>
      rw [if_neg (show y.id ≠ i from hn 0 (Nat.succ_pos _))]
      exact ih (Nat.lt_of_succ_lt_succ hk) (fun j hj => hn (j + 1) (Nat.succ_lt_succ hj)) he
theorem getK_never {L : List Kr} {i : Int} (hn : ∀ j, j < L.length → (L.getD j kr0).id ≠ i) : getK (L.map Kr.kt) i = none := by
  induction L with
  | nil => rfl
  | cons y L ih =>
    rw [List.map_cons, getK]
    show (if y.id = i then some y.x.fi else _) = _
    rw [if_neg (show y.id ≠ i from hn 0 (Nat.succ_pos _))]
    exact ih fun j hj => hn (j + 1) (Nat.succ_lt_succ hj)
theorem kr_mem {L : List Kr} {k : Nat} (h : k < L.length) : L.getD k kr0 ∈ L := by
  rw [List.getD_eq_getElem?_getD, List.getElem?_eq_getElem h]; exact List.getElem_mem _
set_option maxRecDepth 100000 in
set_option maxHeartbeats 1000000 in
theorem rget12_any {w : World} {D : Nat} {d : Dk} {x : Fo} {p : Option Addr} {n c : Nat} {L : List Kr} (h : Rx w D d x p n c L) (hn : n ≤ 2097152) (i : Int) :
    Calls Tryz.prog 78 #[.pointer (some ⟨D, 0, none⟩), .int .i64 i] w fun e w' => ∃ y : Ni, e = .returned y.v ∧ (y = ni0 ∨ ∃ z ∈ L, z.x = y) ∧ Ni.fit w y ∧ y.fi = atK d.K i ∧ Below w.heap.size w w' := by
  have HX := Lib.hid h
  have HL := Lib.hid h.s.len
  obtain ⟨wA, hA⟩ : ∃ W, w.alloc (.cells #[.slice none 0 0, .slice none 0 0] 73) = W := ⟨_, rfl⟩
  obtain ⟨G, hG⟩ : ∃ G, w.heap.size = G := ⟨_, rfl⟩
  have HBA : Hid (Below w.heap.size w wA) := Lib.hid (by rw [← hA]; exact (Below.refl _ _).alloc (Nat.le_refl _) _)
  have hrow : wA.heap[G]? = some (.cells #[.slice none 0 0, .slice none 0 0] 73 (0, 0)) := by rw [← hA, ← hG]; exact heap_alloc_new _ _
  have HRW := Lib.hid hrow
  have f0 : wA.frozen? ⟨G, 0, none⟩ = false := frozen_of_row _ _ _ _ _ hrow
  have f1 : wA.frozen? ⟨G, 1, none⟩ = false := frozen_of_row _ _ _ _ _ hrow
  have i0 : wA.cell? ⟨G, 0, none⟩ = some (.slice none 0 0) := by rw [cell_of_row _ _ _ _ _ _ hrow]; rfl
  have i1 : wA.cell? ⟨G, 1, none⟩ = some (.slice none 0 0) := by rw [cell_of_row _ _ _ _ _ _ hrow]; rfl
  have HXA := Lib.hid (h.later HBA.out)
  obtain ⟨_, _, _, _, c4, _⟩ := HXA.out.b.cells
  have HGS := Lib.hid hG
  have HSB : Hid (∀ v0 v1, Below w.heap.size w ((wA.setCell ⟨G, 0, none⟩ v0).setCell ⟨G, 1, none⟩ v1)) := Lib.hid fun v0 v1 => by
    have h1 := HBA.out.setCell (p := ⟨G, 0, none⟩) (by rw [← hG]; exact Nat.le_refl _) v0
    exact h1.setCell (p := ⟨G, 1, none⟩) (by rw [← hG]; exact Nat.le_refl _) v1
  have HSC : Hid (∀ v0 v1, ((wA.setCell ⟨G, 0, none⟩ v0).setCell ⟨G, 1, none⟩ v1).heap[G]? = some (.cells #[v0, v1] 73 (0, 0))) := Lib.hid fun v0 v1 => by
    rw [heap_setCell_same _ G 1 _ _ _ (heap_setCell_same _ G 0 _ _ _ hrow)]; rfl
  clear h hrow
  go_enter Tryz.func78, Tryz.ntmps78
  go_wp2
  go_loopw [5] (fun v wr => ∃ k : Nat, k ≤ n ∧ v = .int .i64 (k : Int) ∧ wr = wA ∧ Hid (∀ j, j < k → (L.getD j kr0).id ≠ i)) (fun v _ => n - (intOf v).toNat)
  case atStart => exact ⟨0, Nat.zero_le _, rfl, rfl, Lib.hid fun j hj => absurd hj (Nat.not_lt_zero _)⟩
  case round =>
    obtain ⟨k, hk, rfl, rfl, HN⟩ := hrel
    by_cases hlt : k < n
    · have hkn : (k : Int) < (n : Int) := by omega
      have hk0 : (0 : Int) ≤ (k : Int) := by omega
      have HKL : Hid (k < L.length) := Lib.hid (by rw [HL.out]; exact hlt)
      have HFI := Lib.hid (HX.out.i _ (kr_mem HKL.out))
      have HMM : Hid (∃ z ∈ L, z.x = (L.getD k kr0).x) := Lib.hid ⟨_, kr_mem HKL.out, rfl⟩
      have HGF : Hid ((L.getD k kr0).id = i → (L.getD k kr0).x.fi = atK d.K i) := Lib.hid fun he => by
        unfold atK
        rw [← HX.out.k, getK_first HKL.out HN.out he]; rfl
      have HNX : Hid ((L.getD k kr0).id ≠ i → ∀ j, j < k + 1 → (L.getD j kr0).id ≠ i) := Lib.hid fun he j hj => by
        rcases Nat.lt_or_ge j k with h1 | h1
        · exact HN.out j h1
        · obtain rfl : j = k := by omega
          exact he
      obtain ⟨b, off, rfl, k0, k1, k2⟩ := HXA.out.s.kr k hlt
      generalize L.getD k kr0 = y at *
      obtain ⟨yi, yp, yn, yc, yq, ym, yd, yz, yL⟩ := y
      dsimp only at k0 k1 k2 HFI HGF HNX HMM
      by_cases he : yi = i
      · have HF2 := Lib.hid (HGF.out he)
        subst he
        obtain ⟨wS, hS⟩ : ∃ W, (wr.setCell ⟨G, 0, none⟩ (.slice yp yn yc)).setCell ⟨G, 1, none⟩ (.slice yq ym yd) = W := ⟨_, rfl⟩
        have HBS := Lib.hid (HSB.out (.slice yp yn yc) (.slice yq ym yd))
        have hrs := HSC.out (.slice yp yn yc) (.slice yq ym yd)
        rw [hS] at HBS hrs
        have s0 : wS.cell? ⟨G, 0, none⟩ = some (.slice yp yn yc) := by rw [cell_of_row _ _ _ _ _ _ hrs]; rfl
        have s1 : wS.cell? ⟨G, 1, none⟩ = some (.slice yq ym yd) := by rw [cell_of_row _ _ _ _ _ _ hrs]; rfl
        have HRS := Lib.hid hrs
        clear hrs
        go_wp2
        refine bodyPost_ret (results_cell_row rfl _ _ G 73 _ (0, 0) _ rfl HRS.out Tryz.underlying73 rfl size25) rfl ?_
        exact ⟨⟨yp, yn, yc, yq, ym, yd, yz, yL⟩, rfl, Or.inr HMM.out, HFI.out, HF2.out, by first | exact HBS.out | (have hh := HBS.out; rw [HGS.out] at hh; exact hh)⟩
      · have q : (yi == i) = false := by simpa using he
        have HN2 := Lib.hid (HNX.out he)
        clear he
        go_wp2
        refine ⟨?_, by simp [intOf] <;> omega⟩
        exact ⟨k + 1, by omega, by go_num, trivial, HN2⟩
    · obtain rfl : k = n := by omega
      have HF2 : Hid (fi0 = atK d.K i) := Lib.hid (by
        unfold atK
        rw [← HX.out.k, getK_never (by rw [HL.out]; exact HN.out)]; rfl)
      obtain ⟨wS, hS⟩ : ∃ W, (wr.setCell ⟨G, 0, none⟩ (.slice none 0 0)).setCell ⟨G, 1, none⟩ (.slice none 0 0) = W := ⟨_, rfl⟩
      have HBS := Lib.hid (HSB.out (.slice none 0 0) (.slice none 0 0))
      have hrs := HSC.out (.slice none 0 0) (.slice none 0 0)
      rw [hS] at HBS hrs
      have s0 : wS.cell? ⟨G, 0, none⟩ = some (.slice none 0 0) := by rw [cell_of_row _ _ _ _ _ _ hrs]; rfl
      have s1 : wS.cell? ⟨G, 1, none⟩ = some (.slice none 0 0) := by rw [cell_of_row _ _ _ _ _ _ hrs]; rfl
      have HRS := Lib.hid hrs
      clear hrs
      go_wp2
      refine bodyPost_ret (results_cell_row rfl _ _ G 73 _ (0, 0) _ rfl HRS.out Tryz.underlying73 rfl size25) rfl ?_
      exact ⟨ni0, rfl, Or.inl rfl, ni0_fit _, HF2.out, by first | exact HBS.out | (have hh := HBS.out; rw [HGS.out] at hh; exact hh)⟩

theorem used_append (A B : List Kt) : usedK (A ++ B) = usedK A + usedK B := by
  induction A with
  | nil => rw [List.nil_append]; show _ = 0 + _; omega
  | cons a A ih => rw [List.cons_append, usedK, usedK, ih]; omega
theorem used_take {L : List Kr} {k : Nat} (h : k < L.length) : usedK ((L.take (k + 1)).map Kr.kt) = usedK ((L.take k).map Kr.kt) + roomP (L.getD k kr0).x.fi := by
  rw [List.take_succ_eq_append_getElem h, List.map_append, used_append, List.getD_eq_getElem?_getD, List.getElem?_eq_getElem h]
  show _ + (roomP _ + 0) = _
  rw [Int.add_zero]; rfl
theorem used_take_le (L : List Kr) (k : Nat) : usedK ((L.take k).map Kr.kt) ≤ usedK (L.map Kr.kt) := by
  conv => rhs; rw [← List.take_append_drop k L, List.map_append, used_append]
  have := usedK_pos ((L.drop k).map Kr.kt)
  omega
theorem Rx.ok {w : World} {D m : Nat} {d : Dk} {x : Fo} {p : Option Addr} {n c : Nat} {L : List Kr} (h : Rx w D d x p n c L) (ho : d.Ok m) (hm : m ≤ 1048575) : ∀ y ∈ L, y.x.fi.ok := fun y hy => by
  obtain ⟨h1, h2, h3⟩ := ho.x y.kt (by rw [← h.k]; exact List.mem_map_of_mem hy)
  exact ⟨Nat.le_trans h1 (by omega), Nat.le_trans h2 (by omega), h3⟩
theorem Rx.len {w : World} {D m : Nat} {d : Dk} {x : Fo} {p : Option Addr} {n c : Nat} {L : List Kr} (h : Rx w D d x p n c L) (ho : d.Ok m) : n ≤ m ∧ d.K.length = n := by
  have h1 := h.s.len
  have h2 := congrArg List.length h.k
  rw [List.length_map] at h2
  have h3 := ho.klen
  omega
set_option maxRecDepth 100000 in
set_option maxHeartbeats 1000000 in
theorem rtaken12_any {w : World} {D m : Nat} {d : Dk} {x : Fo} {p : Option Addr} {n c : Nat} {L : List Kr} (h : Rx w D d x p n c L) (ho : d.Ok m) (hm : m ≤ 1048575) :
    Calls Tryz.prog 77 #[.pointer (some ⟨D, 0, none⟩)] w fun e w' => e = .returned (.int .i64 (usedK d.K)) ∧ Below w.heap.size w w' := by
  have HX := Lib.hid h
  have HL := Lib.hid h.s.len
  have HK := Lib.hid (show usedK (L.map Kr.kt) = usedK d.K by rw [h.k])
  have HU := Lib.hid (ho.used hm)
  have HOK := Lib.hid (h.ok ho hm)
  have hn : n ≤ 1048575 := by have := (h.len ho).1; omega
  generalize usedK d.K = U at *
  obtain ⟨_, _, _, _, c4, _⟩ := h.b.cells
  clear h ho
  go_enter Tryz.func77, Tryz.ntmps77
  go_wp2
  clear c4
  go_loopw [3, 4] (fun v i wr => ∃ (k : Nat) (s : Int), k ≤ n ∧ i = .int .i64 (k : Int) ∧ v = .int .i64 s ∧ 0 ≤ s ∧ s ≤ 1099511627776 ∧ Hid (s = usedK ((L.take k).map Kr.kt)) ∧ Hid (Below w.heap.size w wr)) (fun _ i _ => n - (intOf i).toNat)
  case atStart => exact ⟨0, 0, Nat.zero_le _, rfl, rfl, by omega, by omega, Lib.hid rfl, Lib.hid (Below.refl _ _)⟩
  case round =>
    obtain ⟨k, s, hk, rfl, rfl, hs0, hs1, HS, HB⟩ := hrel
    have c4 := (HX.out.later HB.out).b.cells.2.2.2.2.1
    by_cases hlt : k < n
    · have hkn : (k : Int) < (n : Int) := by omega
      have hk0 : (0 : Int) ≤ (k : Int) := by omega
      have HKL : Hid (k < L.length) := Lib.hid (by rw [HL.out]; exact hlt)
      have HBD : Hid (Below w.heap.size w wr.drew) := Lib.hid (HB.out.drew)
      have HFI := Lib.hid ((HX.out.i _ (kr_mem HKL.out)).later HBD.out)
      have HFO := Lib.hid (HOK.out _ (kr_mem HKL.out))
      have HNL := Lib.hid (Ni.len HFI.out HFO.out)
      have HST := Lib.hid (used_take HKL.out)
      have hsle := used_take_le L (k + 1)
      rw [HK.out, used_take HKL.out, ← HS.out] at hsle
      have hrr := roomP_pos (L.getD k kr0).x.fi
      have hU := HU.out.2
      have HPK := Lib.hid (rpeak_any ((L.getD k kr0).x.n : Int) (L.getD k kr0).x.q (L.getD k kr0).x.m (L.getD k kr0).x.d (L.getD k kr0).x.L wr.drew HFI.out.2.2.2.1 (by have := HNL.out.2.1; omega))
      rw [show peakP ((L.getD k kr0).x.n : Int) (chs (L.getD k kr0).x.L) = roomP (L.getD k kr0).x.fi from by rw [← HNL.out.2.2.1]; rfl] at HPK
      obtain ⟨b, off, rfl, _⟩ := (HX.out.later HB.out).s.kr k hlt
      have HGC : Hid (∀ W, Below w.heap.size w W → W.cell? ⟨D, 4, none⟩ = some (.slice (some ⟨b, off, none⟩) n c) ∧ W.cell? ⟨b, off + k * 3 + 1, none⟩ = some (.slice (L.getD k kr0).x.p (L.getD k kr0).x.n (L.getD k kr0).x.c) ∧ W.cell? ⟨b, off + k * 3 + 2, none⟩ = some (.slice (L.getD k kr0).x.q (L.getD k kr0).x.m (L.getD k kr0).x.d)) := Lib.hid fun W hW => by
        obtain ⟨b', off', hp, x0, x1, x2⟩ := (HX.out.later hW).s.kr k hlt
        simp only [Option.some.injEq, Addr.mk.injEq, and_true] at hp
        obtain ⟨rfl, rfl⟩ := hp
        exact ⟨(HX.out.later hW).b.cells.2.2.2.2.1, x1, x2⟩
      clear HFI HFO HNL
      generalize L.getD k kr0 = y at *
      generalize roomP y.x.fi = rr at *
      have hs2 : s + rr ≤ 1099511627776 := by omega
      have hs3 : 0 ≤ s + rr := by omega
      have hadd : IntKind.i64.wrap (s + rr) = s + rr := by rw [IntKind.wrap_i64]; omega
      obtain ⟨yi, yp, yn, yc, yq, ym, yd, yz, yL⟩ := y
      dsimp only at HPK HGC
      have k0 := HGC.out _ HB.out
      have k1 := HGC.out _ HBD.out
      go_wp2_with fail
      go_region_held3 (fun W => W.cell? ⟨D, 4, none⟩ = some (.slice (some ⟨b, off, none⟩) n c) ∧ W.cell? ⟨b, off + k * 3 + 1, none⟩ = some (.slice yp yn yc) ∧ W.cell? ⟨b, off + k * 3 + 2, none⟩ = some (.slice yq ym yd)) (first | exact k0 | exact k1 | exact k2) (first | (go_at_call 99; refine HPK.out.mono ?_; rintro e w2 ⟨rfl, hb2⟩; have HB2 := Lib.hid (below_step HBD.out hb2); have k2 := HGC.out _ HB2.out; clear hb2))
      clear k0 k1 k2 c4
      go_wp2
      have HS2 : Hid (s + rr = usedK ((L.take (k + 1)).map Kr.kt)) := Lib.hid (by rw [HST.out, ← HS.out])
      refine ⟨?_, by simp [intOf] <;> omega⟩
      refine ⟨k + 1, s + rr, by omega, ?_, ?_, by omega, by omega, HS2, HB2⟩
      · go_num
      · go_num
    · obtain rfl : k = n := by omega
      have HE : Hid (s = U) := Lib.hid (by
        rw [HS.out, List.take_of_length_le (by rw [HL.out]; exact Nat.le_refl _), HK.out])
      go_wp2
      go_ret
      exact ⟨by rw [HE.out]; rfl, HB.out⟩
end Go.Proofs.YtncbgddgkpaoeaaGreat

namespace Go.Proofs.YtncbgddgkpaoeaaGreat
set_option linter.unusedVariables false
open Go.RowKit Go.Lib

theorem Gw.above {α : Type} {E : Ec α} {w : World} {B n c : Nat} {p : Option Addr} {L : List α} (h : Gw E w B (.slice p n c) L) : ∀ a, p = some a → B ≤ a.block := by
  intro a ha
  subst ha
  obtain ⟨hl, h2⟩ := h
  rcases h2 with ⟨e, _⟩ | ⟨g, cap, cur, e, hB, _⟩
  · cases e
  · simp only [Value.slice.injEq, Option.some.injEq] at e
    obtain ⟨rfl, _⟩ := e
    exact hB
/-- rows of the call's own of different kinds lie apart -/
theorem Gw.aside {α β : Type} {E : Ec α} {F : Ec β} {w w' : World} {B C : Nat} {v u : Value} {L : List α} {M : List β} (h : Gw E w B v L) (k : Gw F w C u M) (hne : E.t ≠ F.t) (hg : w.grownBy w' u.ownBlock) : Gw E w' B v L := by
  refine h.kept hg fun b hb e => ?_
  rcases h.2 with ⟨rfl, _⟩ | ⟨g, cap, cur, rfl, _, hr, _⟩
  · cases hb
  · rcases k.2 with ⟨rfl, _⟩ | ⟨g2, cap2, cur2, rfl, _, hr2, _⟩
    · cases e
    · obtain rfl : g = b := by simpa [Value.ownBlock] using hb
      obtain rfl : g = g2 := by simpa [Value.ownBlock] using e
      rw [hr] at hr2
      simp only [Option.some.injEq, Obj.cells.injEq] at hr2
      exact hne hr2.2.1
theorem ids_ne : encI.t ≠ encR.t := by decide
theorem tidy_take {K : List Kt} {l : List Int} {j : Nat} (h : j < l.length) : tidyK K (l.take (j + 1)) = tidyK K (l.take j) ++ [⟨l.getD j 0, atK K (l.getD j 0)⟩] := by
  unfold tidyK
  rw [List.take_succ_eq_append_getElem h, List.map_append, List.getD_eq_getElem?_getD, List.getElem?_eq_getElem h]; rfl
set_option maxRecDepth 100000 in
set_option maxHeartbeats 2000000 in
theorem rtidy12_any {w : World} {D : Nat} {d : Dk} {x : Fo} {p : Option Addr} {n c : Nat} {L : List Kr} (h : Rx w D d x p n c L) (hF : d.F.ok) (hn : n ≤ 2097152) (hl : (idsP d.F).length ≤ 1048576) :
    Calls Tryz.prog 74 #[.pointer (some ⟨D, 0, none⟩)] w fun e w' => e = .returned (.tuple #[]) ∧ Rw w' D { d with K := tidyK d.K (idsP d.F) } ∧ Kp D D w w' := by
  obtain ⟨_, _, c2, c3, _, _, _, _, _⟩ := h.b.cells
  have HX := Lib.hid h
  have HID := Lib.hid (rids_any x w h.f (by rw [h.fd]; exact hF))
  rw [h.fd] at HID
  unfold Fo.v at HID
  generalize hI : idsP d.F = I at *
  have HIL := Lib.hid hl
  clear h hF hI
  go_enter Tryz.func74, Tryz.ntmps74
  go_wp2_with (go_at_call 96; refine HID.out.mono ?_; rintro e w2 ⟨v2, rfl, ho2, hb2⟩; obtain ⟨p2, c2', hv2, hl2, hm2, hg2, hpn2⟩ := ho2.open; subst hv2; have HB2 := Lib.hid hb2; have HG2 := Lib.hid hg2; have HO2 := Lib.hid ho2; clear ho2 hb2 hl2 hm2 hg2 hpn2)
  obtain ⟨l, hl'⟩ : ∃ l, I.length = l := ⟨_, rfl⟩
  have HLE := Lib.hid hl'
  rw [hl'] at HG2 HO2 hl
  simp only [hl']
  clear c2 c3 hl'
  go_loopw [3, 4] (fun v i wr => ∃ (j : Nat) (T : List Kr), j ≤ l ∧ i = .int .i64 (j : Int) ∧ Hid (Gw encR wr w.heap.size v T) ∧ Hid (T.map Kr.kt = tidyK d.K (I.take j)) ∧ Hid (∀ y ∈ T, Ni.fit w y.x) ∧ Hid (Below w.heap.size w wr) ∧ Hid (Gw encI wr w.heap.size (.slice p2 l c2') I)) (fun _ i _ => l - (intOf i).toNat)
  case atStart => exact ⟨0, [], Nat.zero_le _, rfl, Lib.hid (Gw.nil _ _ _), Lib.hid rfl, Lib.hid (fun y hy => by cases hy), HB2, HO2⟩
  case round =>
    obtain ⟨j, T, hj, rfl, HO, HT, HFT, HB, HGI⟩ := hrel
    clear HB2 HG2 HO2
    by_cases hlt : j < l
    · obtain ⟨b', off, rfl, c0⟩ := HGI.out.gs.it j hlt
      have hkn : (j : Int) < (l : Int) := by omega
      have hk0 : (0 : Int) ≤ (j : Int) := by omega
      have HBR : Hid (Below wr.heap.size wr wr.drew) := Lib.hid ((Below.refl _ _).drew)
      have HBD := Lib.hid (below_step HB.out HBR.out)
      have HTL : Hid (T.length = j) := Lib.hid (by
        have := congrArg List.length HT.out
        rw [List.length_map] at this
        unfold tidyK at this
        rw [List.length_map, List.length_take, HLE.out] at this
        omega)
      have HST := Lib.hid (tidy_take (K := d.K) (l := I) (j := j) (by rw [HLE.out]; exact hlt))
      have HGD : Hid (∀ W, Gw encI W w.heap.size (.slice (some ⟨b', off, none⟩) l c2') I → W.cell? ⟨b', off + j, none⟩ = some (.int .i64 (I.getD j 0))) := Lib.hid fun W hW => by
        obtain ⟨b2, off2, hp, x0⟩ := hW.gs.it j hlt
        simp only [Option.some.injEq, Addr.mk.injEq, and_true] at hp
        obtain ⟨rfl, rfl⟩ := hp
        exact x0
      have HGC : Hid (∀ W, Below wr.heap.size wr W → W.cell? ⟨b', off + j, none⟩ = some (.int .i64 (I.getD j 0))) := Lib.hid fun W hW => by
        obtain ⟨b2, off2, hp, x0⟩ := (HGI.out.later hW).gs.it j hlt
        simp only [Option.some.injEq, Addr.mk.injEq, and_true] at hp
        obtain ⟨rfl, rfl⟩ := hp
        exact x0
      have HGT := Lib.hid (rget12_any (HX.out.later HBD.out) hn (I.getD j 0))
      clear c0
      generalize I.getD j 0 = yi at *
      generalize atK d.K yi = Z at *
      have k0 := HGC.out _ (Below.refl _ _)
      have k1 := HGC.out _ HBR.out
      have HOD := Lib.hid (HO.out.later HBR.out)
      go_wp2_with fail
      go_region_held3 (fun W => W.cell? ⟨b', off + j, none⟩ = some (.int .i64 yi)) (first | exact k0 | exact k1 | exact k5 | exact kC | exact k6) (first
        | (go_at_call 78; refine HGT.out.mono ?_; rintro e5 w5 ⟨y, rfl, hm5, _, hyf, hb5⟩; obtain ⟨yp, yn, yc, yq, ym, yd, yz, yL⟩ := y; unfold Ni.v; dsimp only; have HFY : Hid (Ni.fit w ⟨yp, yn, yc, yq, ym, yd, yz, yL⟩) := Lib.hid (by rcases hm5 with e | ⟨z, hz, e⟩ <;> first | (rw [e]; exact ni0_fit w) | (rw [← e]; exact HX.out.i z hz)); have HYF := Lib.hid hyf; have HB5 := Lib.hid (below_step HBD.out hb5); have HBR5 := Lib.hid (below_step HBR.out hb5); have HO5 := Lib.hid (HOD.out.later hb5); have k5 := HGC.out _ HBR5.out; obtain ⟨wC, hwC⟩ : ∃ W, w5.alloc (.cells #[.int .i64 yi, .slice yp yn yc, .slice yq ym yd] 85) = W := ⟨_, rfl⟩; obtain ⟨GC, hGC⟩ : ∃ G, w5.heap.size = G := ⟨_, rfl⟩; have HBC : Hid (Below w5.heap.size w5 wC) := Lib.hid (by rw [← hwC]; exact (Below.refl _ _).alloc (Nat.le_refl _) _); have HGC1 : Hid (Gs encR wC (some ⟨GC, 0, none⟩) 1 [⟨yi, ⟨yp, yn, yc, yq, ym, yd, yz, yL⟩⟩]) := Lib.hid (by rw [← hwC, ← hGC]; exact Gs.one encR _ ⟨yi, ⟨yp, yn, yc, yq, ym, yd, yz, yL⟩⟩ _ rfl _ _); have HOC := Lib.hid (HO5.out.later HBC.out); have HBX := Lib.hid (below_step HB5.out HBC.out); have HGIC := Lib.hid (HGI.out.later (below_step HBR5.out HBC.out)); have kC := HGD.out _ HGIC.out; clear hm5 hyf hb5)
        | (refine step_append_gen encR rfl (.tmp 16) (.tmp 28) 81 rfl Tryz.underlying81 (.agg #[.int .i64 0, .slice none 0 0, .slice none 0 0]) 56 infoR rfl (by decide) w.heap.size _ T rfl HOC.out _ 1 1 [⟨yi, ⟨yp, yn, yc, yq, ym, yd, yz, yL⟩⟩] rfl HGC1.out (fun h => by cases h) (by rw [HTL.out]; omega) HBX.out.size ?_; intro v6 w6 ho6 hg6; have HO6 := Lib.hid ho6; have HB6 := Lib.hid (below_new_gw HBX.out HOC.out hg6 HBX.out.size); have HGI6 := Lib.hid (HGIC.out.aside HOC.out ids_ne hg6); have k6 := HGD.out _ HGI6.out; clear ho6 hg6))
      have HT6 : Hid ((T ++ [(⟨yi, ⟨yp, yn, yc, yq, ym, yd, yz, yL⟩⟩ : Kr)]).map Kr.kt = tidyK d.K (I.take (j + 1))) := Lib.hid (by
        rw [List.map_append, HT.out, HST.out, ← HYF.out]; rfl)
      have HF6 : Hid (∀ y ∈ T ++ [(⟨yi, ⟨yp, yn, yc, yq, ym, yd, yz, yL⟩⟩ : Kr)], Ni.fit w y.x) := Lib.hid fun y hy => by
        rcases List.mem_append.1 hy with hy | hy
        · exact HFT.out y hy
        · obtain rfl := List.mem_singleton.1 hy
          exact HFY.out
      clear k0 k1 k5 kC k6 hwC hGC
      go_wp2
      refine ⟨?_, by simp [intOf] <;> omega⟩
      first
        | exact ⟨j + 1, _, by omega, by go_num, HO6, HT6, HF6, HB6, HGI6⟩
        | ((repeat apply Exists.intro); refine ⟨?_, rfl⟩; exact ⟨j + 1, _, by omega, by go_num, HO6, HT6, HF6, HB6, HGI6⟩)
    · obtain rfl : j = l := by omega
      obtain ⟨q, cp, hv, hlc, _, hgs, hpn⟩ := HO.out.open
      have hab := HO.out
      subst hv
      have HAB := Lib.hid (Gw.above hab)
      have HTT : Hid (T.map Kr.kt = tidyK d.K I) := Lib.hid (by rw [HT.out, List.take_of_length_le (by rw [HLE.out]; exact Nat.le_refl _)])
      have HXR := Lib.hid (HX.out.later HB.out)
      have fz := HXR.out.b.frozen 4
      have HGS := Lib.hid hgs
      have HPN := Lib.hid hpn
      have HLC := Lib.hid hlc
      obtain ⟨wS, hS⟩ : ∃ W, wr.setCell ⟨D, 4, none⟩ (.slice q T.length cp) = W := ⟨_, rfl⟩
      have HSB := Lib.hid (HXR.out.b.setFiles q T.length cp)
      have HSK := Lib.hid (Kp.of_set wr D 4 (.slice q T.length cp))
      rw [hS] at HSB HSK
      have c4 := HXR.out.b.cells.2.2.2.2.1
      clear hab hgs hpn hlc
      go_wp2
      first | go_end0 | (refine bodyPost_ret (results_none rfl _ _ _) rfl ?_)
      refine ⟨rfl, ⟨x, q, T.length, cp, T, ?_⟩, (Kp.of_below HB.out).trans HSK.out⟩
      have hnx := HXR.out.b.nix
      have hlt := HX.out.b.lt
      exact { b := HSB.out, f := HXR.out.f.kp HSK.out hnx hnx, fd := HX.out.fd, s := HGS.out.apart HSK.out (fun a ha => by have := HAB.out a ha; omega), k := HTT.out, i := fun y hy => ((HFT.out y hy).later HB.out).kp HSK.out hnx hnx, pn := HPN.out, le := HLC.out, sp := fun a ha => by have := HAB.out a ha; omega }
end Go.Proofs.YtncbgddgkpaoeaaGreat

namespace Go.Proofs.YtncbgddgkpaoeaaGreat
set_option linter.unusedVariables false
open Go.RowKit Go.Lib

theorem flat_setX : ∀ (L : List Kr) (j : Nat) (y : Ni), j < L.length → encR.flat (L.set j ⟨(L.getD j kr0).id, y⟩) = ((encR.flat L).set (j * 3 + 1) (.slice y.p y.n y.c)).set (j * 3 + 2) (.slice y.q y.m y.d)
  | [], j, y, h => absurd h (Nat.not_lt_zero _)
  | z :: L, 0, y, _ => rfl
  | z :: L, j + 1, y, h => by
    have ih := flat_setX L j y (Nat.lt_of_succ_lt_succ h)
    rw [show (j + 1) * 3 + 1 = (j * 3 + 1) + 3 by omega, show (j + 1) * 3 + 2 = (j * 3 + 2) + 3 by omega]
    show encR.f z ++ encR.flat (L.set j ⟨(L.getD j kr0).id, y⟩) = _
    rw [ih]; rfl
/-- an element's file, written in a row of the call's own -/
theorem Gw.setX {w : World} {B g n c : Nat} {L : List Kr} (h : Gw encR w B (.slice (some ⟨g, 0, none⟩) n c) L) {j : Nat} (hj : j < n) (y : Ni) :
    Gw encR ((w.setCell ⟨g, j * 3 + 1, none⟩ (.slice y.p y.n y.c)).setCell ⟨g, j * 3 + 2, none⟩ (.slice y.q y.m y.d)) B (.slice (some ⟨g, 0, none⟩) n c) (L.set j ⟨(L.getD j kr0).id, y⟩) := by
  obtain ⟨rfl, hB, hn, hm, cur, hg, hs, ht⟩ := h.block
  have hlen : (L.set j ⟨(L.getD j kr0).id, y⟩).length = L.length := List.length_set
  have e1 : (w.setCell ⟨g, j * 3 + 1, none⟩ (.slice y.p y.n y.c)).heap[g]? = some (.cells (cur.setIfInBounds (j * 3 + 1) (.slice y.p y.n y.c)) encR.t (0, 0)) := heap_setCell_same w g (j * 3 + 1) _ _ _ hg
  have e2 : ((w.setCell ⟨g, j * 3 + 1, none⟩ (.slice y.p y.n y.c)).setCell ⟨g, j * 3 + 2, none⟩ (.slice y.q y.m y.d)).heap[g]? = some (.cells ((cur.setIfInBounds (j * 3 + 1) (.slice y.p y.n y.c)).setIfInBounds (j * 3 + 2) (.slice y.q y.m y.d)) encR.t (0, 0)) := heap_setCell_same _ g (j * 3 + 2) _ _ _ e1
  have h2 := Gw.mk (E := encR) (L := L.set j ⟨(L.getD j kr0).id, y⟩) (c := c) (B := B) (g := g) hB (by rw [hlen]; exact hn) hm e2 (by simpa using hs) (by
    rw [hlen, flat_setX L j y hj, ← ht]
    simp only [Array.toList_setIfInBounds, List.take_set])
  rw [hlen] at h2
  exact h2
theorem below_setX {B : Nat} {a w : World} {g n c : Nat} {L : List Kr} (hb : Below B a w) (h : Gw encR w B (.slice (some ⟨g, 0, none⟩) n c) L) (i j : Nat) (u v : Value) : Below B a ((w.setCell ⟨g, i, none⟩ u).setCell ⟨g, j, none⟩ v) := by
  obtain ⟨_, hB, _⟩ := h.block
  exact (hb.setCell (p := ⟨g, i, none⟩) hB u).setCell (p := ⟨g, j, none⟩) hB v
theorem getD_set {L : List Kr} {k j : Nat} (a : Kr) (hk : k < L.length) : (L.set k a).getD j kr0 = if j = k then a else L.getD j kr0 := by
  rw [List.getD_eq_getElem?_getD, List.getD_eq_getElem?_getD, List.getElem?_set]
  by_cases e : k = j
  · rw [if_pos e, if_pos e.symm, if_pos hk]; rfl
  · rw [if_neg e, if_neg (fun h => e h.symm)]
def stX (i : Int) (X : Ni) (y : Kr) : Kr := if y.id = i then ⟨y.id, X⟩ else y
theorem setX_all {L T : List Kr} {i : Int} {X : Ni} (hl : T.length = L.length) (h : ∀ j, j < L.length → T.getD j kr0 = stX i X (L.getD j kr0)) : T = L.map (stX i X) := by
  apply List.ext_getElem (by rw [hl, List.length_map])
  intro j h1 h2
  have h3 := h j (by rw [← hl]; exact h1)
  rw [List.getD_eq_getElem?_getD, List.getD_eq_getElem?_getD, List.getElem?_eq_getElem h1, List.getElem?_eq_getElem (by rw [← hl]; exact h1)] at h3
  rw [List.getElem_map]
  exact h3
theorem setX_kt (L : List Kr) (i : Int) (X : Ni) : (L.map (stX i X)).map Kr.kt = setK (L.map Kr.kt) i X.fi := by
  unfold setK
  rw [List.map_map, List.map_map]
  apply List.map_congr_left
  intro y _
  show (stX i X y).kt = if y.id = i then (⟨y.id, X.fi⟩ : Kt) else y.kt
  unfold stX
  split <;> rfl
set_option maxRecDepth 100000 in
set_option maxHeartbeats 2000000 in
theorem rset12_any {w : World} {D : Nat} {d : Dk} {x : Fo} {p : Option Addr} {n c : Nat} {L : List Kr} (h : Rx w D d x p n c L) (hn : n ≤ 1048576) (i : Int) (X : Ni) (hX : Ni.fit w X) :
    Calls Tryz.prog 100 #[.pointer (some ⟨D, 0, none⟩), .int .i64 i, X.v] w fun e w' => e = .returned (.tuple #[]) ∧ Rw w' D { d with K := setK d.K i X.fi } ∧ Kp D D w w' := by
  have HX := Lib.hid h
  have HL := Lib.hid h.s.len
  have HXF := Lib.hid hX
  obtain ⟨xp, xn, xc, xq, xm, xd, xz, xL⟩ := X
  unfold Ni.v
  dsimp only
  obtain ⟨wA, hA⟩ : ∃ A, w.alloc (.cells #[.slice xp xn xc, .slice xq xm xd] 73) = A := ⟨_, rfl⟩
  obtain ⟨G0, hG0⟩ : ∃ G, w.heap.size = G := ⟨_, rfl⟩
  have HG0 := Lib.hid hG0
  have HBA : Hid (Below w.heap.size w wA) := Lib.hid (by rw [← hA]; exact (Below.refl _ _).alloc (Nat.le_refl _) _)
  have hrow : wA.heap[G0]? = some (.cells #[.slice xp xn xc, .slice xq xm xd] 73 (0, 0)) := by rw [← hA, ← hG0]; exact heap_alloc_new _ _
  have HRW := Lib.hid hrow
  have HWA : Hid (w.heap.size < wA.heap.size) := Lib.hid (by rw [hG0]; exact (Array.getElem?_eq_some_iff.1 hrow).1)
  have HXA := Lib.hid (h.later HBA.out)
  obtain ⟨_, _, _, _, c4, _⟩ := HXA.out.b.cells
  have HGA := Lib.hid HXA.out.s
  have hpn := h.pn
  clear h hX hrow
  go_enter Tryz.func100, Tryz.ntmps100
  go_wp2_with (refine wpList_append_gen encR rfl _ _ 81 rfl Tryz.underlying81 (.agg #[.int .i64 0, .slice none 0 0, .slice none 0 0]) 56 infoR rfl (by decide) wA.heap.size (.slice none 0 0) [] rfl (Gw.nil _ _ _) p n c L rfl HGA.out hpn (by simp; omega) (Nat.le_refl _) ?_; intro v2 w2 ho2 hg2; rw [List.nil_append] at ho2; obtain ⟨q, cp, hv2, hlc2, _, _, hpq2⟩ := ho2.open; subst hv2; have HLC := Lib.hid hlc2; have HPQ := Lib.hid hpq2; have HO2 := Lib.hid ho2; have HB2 := Lib.hid (below_new_gw (Below.refl _ _) (Gw.nil encR wA wA.heap.size) hg2 (Nat.le_refl _)); clear ho2 hg2 hlc2 hpq2)
  rw [HL.out] at HO2 HLC
  simp only [HL.out]
  clear c4
  go_loopw [7] (fun v wr => ∃ (k : Nat) (T : List Kr), k ≤ n ∧ v = .int .i64 (k : Int) ∧ Hid (Gw encR wr wA.heap.size (.slice q n cp) T) ∧ Hid (T.length = n) ∧ Hid (∀ j, j < k → T.getD j kr0 = stX i ⟨xp, xn, xc, xq, xm, xd, xz, xL⟩ (L.getD j kr0)) ∧ Hid (∀ j, k ≤ j → T.getD j kr0 = L.getD j kr0) ∧ Hid (Below wA.heap.size wA wr)) (fun v _ => n - (intOf v).toNat)
  case atStart => exact ⟨0, L, Nat.zero_le _, rfl, HO2, HL, Lib.hid (fun j hj => absurd hj (Nat.not_lt_zero _)), Lib.hid (fun j _ => rfl), HB2⟩
  case round =>
    clear HO2 HB2
    obtain ⟨k, T, hk, rfl, HO, HTL, HTD, HTS, HB⟩ := hrel
    by_cases hlt : k < n
    · have hkn : (k : Int) < (n : Int) := by omega
      have hk0 : (0 : Int) ≤ (k : Int) := by omega
      obtain ⟨g, rfl⟩ := HO.out.ptr (Nat.lt_of_le_of_lt (Nat.zero_le k) hlt)
      have c0 : wr.cell? ⟨g, k * 3, none⟩ = some (.int .i64 (L.getD k kr0).id) := by
        obtain ⟨b, off, hp, x0, _, _⟩ := HO.out.gs.kr k hlt
        simp only [Option.some.injEq, Addr.mk.injEq, and_true] at hp
        obtain ⟨rfl, rfl⟩ := hp
        rw [Nat.zero_add, HTS.out k (Nat.le_refl _)] at x0
        exact x0
      have HSK := Lib.hid (HTS.out k (Nat.le_refl _))
      have HST : Hid (stX i ⟨xp, xn, xc, xq, xm, xd, xz, xL⟩ (L.getD k kr0) = if (L.getD k kr0).id = i then ⟨(L.getD k kr0).id, ⟨xp, xn, xc, xq, xm, xd, xz, xL⟩⟩ else L.getD k kr0) := Lib.hid rfl
      have hsx := HO.out.setX hlt ⟨xp, xn, xc, xq, xm, xd, xz, xL⟩
      rw [HSK.out] at hsx
      have HSX : Hid (Gw encR ((wr.setCell ⟨g, k * 3 + 1, none⟩ (.slice xp xn xc)).setCell ⟨g, k * 3 + 1 + 1, none⟩ (.slice xq xm xd)) wA.heap.size (.slice (some ⟨g, 0, none⟩) n cp) (T.set k ⟨(L.getD k kr0).id, ⟨xp, xn, xc, xq, xm, xd, xz, xL⟩⟩)) := Lib.hid hsx
      clear hsx
      have HTK : Hid (k < T.length) := Lib.hid (by rw [HTL.out]; exact hlt)
      obtain ⟨_, _, _, _, cur, hcur, _, _⟩ := HO.out.block
      have f1 : wr.frozen? ⟨g, k * 3 + 1, none⟩ = false := frozen_of_row _ _ _ _ _ hcur
      have hr1 : (wr.setCell ⟨g, k * 3 + 1, none⟩ (.slice xp xn xc)).heap[g]? = some (.cells (cur.setIfInBounds (k * 3 + 1) (.slice xp xn xc)) encR.t (0, 0)) := heap_setCell_same wr g (k * 3 + 1) _ _ _ hcur
      have f2 : (wr.setCell ⟨g, k * 3 + 1, none⟩ (.slice xp xn xc)).frozen? ⟨g, k * 3 + 1 + 1, none⟩ = false := frozen_of_row _ _ _ _ _ hr1
      obtain ⟨o1, o2, hc1, hc2⟩ : ∃ o1 o2, wr.cell? ⟨g, k * 3 + 1, none⟩ = some o1 ∧ wr.cell? ⟨g, k * 3 + 1 + 1, none⟩ = some o2 := by
        obtain ⟨b, off, hp, _, x1, x2⟩ := HO.out.gs.kr k hlt
        simp only [Option.some.injEq, Addr.mk.injEq, and_true] at hp
        obtain ⟨rfl, rfl⟩ := hp
        rw [Nat.zero_add] at x1 x2
        exact ⟨_, _, x1, x2⟩
      have hc3 : (wr.setCell ⟨g, k * 3 + 1, none⟩ (.slice xp xn xc)).cell? ⟨g, k * 3 + 1 + 1, none⟩ = some o2 := by
        rw [cell_of_row _ _ _ _ _ _ hcur] at hc2
        rw [cell_of_row _ _ _ _ _ _ hr1, Array.getElem?_setIfInBounds_ne (by omega)]
        exact hc2
      clear hr1
      have hrw : wr.heap[G0]? = some (.cells #[.slice xp xn xc, .slice xq xm xd] 73 (0, 0)) := by rw [HB.out.block G0 (by have := HWA.out; rw [← HG0.out]; exact this)]; exact HRW.out
      have i0 : wr.cell? ⟨G0, 0, none⟩ = some (.slice xp xn xc) := by rw [cell_of_row _ _ _ _ _ _ hrw]; rfl
      have i1 : wr.cell? ⟨G0, 1, none⟩ = some (.slice xq xm xd) := by rw [cell_of_row _ _ _ _ _ _ hrw]; rfl
      generalize hyk : (L.getD k kr0).id = yi at *
      by_cases he : yi = i
      · obtain ⟨wS, hS⟩ : ∃ W, (wr.setCell ⟨g, k * 3 + 1, none⟩ (.slice xp xn xc)).setCell ⟨g, k * 3 + 1 + 1, none⟩ (.slice xq xm xd) = W := ⟨_, rfl⟩
        have HBS : Hid (Below wA.heap.size wA wS) := Lib.hid (by rw [← hS]; exact below_setX HB.out HO.out _ _ _ _)
        rw [hS] at HSX
        have HE := Lib.hid he
        have HYK := Lib.hid hyk
        have q1 : (yi == i) = true := by simpa using he
        clear he hyk hcur hrw
        go_wp2
        refine ⟨?_, by simp [intOf] <;> omega⟩
        have HT1 : Hid (∀ j, j < k + 1 → (T.set k ⟨yi, ⟨xp, xn, xc, xq, xm, xd, xz, xL⟩⟩).getD j kr0 = stX i ⟨xp, xn, xc, xq, xm, xd, xz, xL⟩ (L.getD j kr0)) := Lib.hid fun j hj => by
          rw [getD_set _ HTK.out]
          by_cases e : j = k
          · subst e
            rw [if_pos rfl, HST.out, if_pos HE.out]
          · rw [if_neg e]; exact HTD.out j (by omega)
        have HT2 : Hid (∀ j, k + 1 ≤ j → (T.set k ⟨yi, ⟨xp, xn, xc, xq, xm, xd, xz, xL⟩⟩).getD j kr0 = L.getD j kr0) := Lib.hid fun j hj => by
          rw [getD_set _ HTK.out, if_neg (by omega)]; exact HTS.out j (by omega)
        exact ⟨k + 1, T.set k ⟨yi, ⟨xp, xn, xc, xq, xm, xd, xz, xL⟩⟩, by omega, by go_num, HSX, Lib.hid (by rw [List.length_set]; exact HTL.out), HT1, HT2, HBS⟩
      · have q1 : (yi == i) = false := by simpa using he
        have HE := Lib.hid he
        have HYK := Lib.hid hyk
        clear he hyk hcur hrw
        go_wp2
        refine ⟨?_, by simp [intOf] <;> omega⟩
        have HT1 : Hid (∀ j, j < k + 1 → T.getD j kr0 = stX i ⟨xp, xn, xc, xq, xm, xd, xz, xL⟩ (L.getD j kr0)) := Lib.hid fun j hj => by
          by_cases e : j = k
          · subst e
            rw [HST.out, if_neg HE.out]; exact HSK.out
          · exact HTD.out j (by omega)
        exact ⟨k + 1, T, by omega, by go_num, HO, HTL, HT1, Lib.hid (fun j hj => HTS.out j (by omega)), HB⟩
    · obtain rfl : k = n := by omega
      have HTM : Hid (T = L.map (stX i ⟨xp, xn, xc, xq, xm, xd, xz, xL⟩)) := Lib.hid (setX_all (by rw [HTL.out, HL.out]) (by rw [HL.out]; exact HTD.out))
      have HAB := Lib.hid (Gw.above HO.out)
      have HXR := Lib.hid (HXA.out.later HB.out)
      have fz := HXR.out.b.frozen 4
      obtain ⟨wS, hS⟩ : ∃ W, wr.setCell ⟨D, 4, none⟩ (.slice q k cp) = W := ⟨_, rfl⟩
      have HSB := Lib.hid (HXR.out.b.setFiles q k cp)
      have HSK := Lib.hid (Kp.of_set wr D 4 (.slice q k cp))
      rw [hS] at HSB HSK
      have c4 := HXR.out.b.cells.2.2.2.2.1
      go_wp2
      first | go_end0 | (refine bodyPost_ret (results_none rfl _ _ _) rfl ?_)
      have hnx := HXR.out.b.nix
      have hlt := HXA.out.b.lt
      have hbw := below_step HBA.out HB.out
      refine ⟨rfl, ⟨x, q, k, cp, T, ?_⟩, (Kp.of_below hbw).trans HSK.out⟩
      have hi : ∀ y ∈ T, Ni.fit wS y.x := fun y hy => by
        rw [HTM.out] at hy
        obtain ⟨z, hz, rfl⟩ := List.mem_map.1 hy
        refine Ni.fit.kp ?_ HSK.out hnx hnx
        unfold stX
        split
        · exact HXF.out.later hbw
        · exact (HX.out.i z hz).later hbw
      have hkk : T.map Kr.kt = setK d.K i (Ni.fi ⟨xp, xn, xc, xq, xm, xd, xz, xL⟩) := by rw [HTM.out, setX_kt, HX.out.k]
      exact { b := HSB.out, f := HXR.out.f.kp HSK.out hnx hnx, fd := HX.out.fd, s := HO.out.gs.apart HSK.out (fun a ha => by have := HAB.out a ha; omega), k := hkk, i := hi, pn := HPQ.out, le := HLC.out, sp := fun a ha => by have := HAB.out a ha; omega }
end Go.Proofs.YtncbgddgkpaoeaaGreat

namespace Go.Proofs.YtncbgddgkpaoeaaGreat
set_option linter.unusedVariables false
open Go.RowKit Go.Lib

set_option maxRecDepth 100000 in
set_option maxHeartbeats 4000000 in
theorem ron12_app {w : World} {D m : Nat} {d : Dk} {x : Fo} {p : Option Addr} {n c : Nat} {L : List Kr} (h : Rx w D d x p n c L) (ho : d.Ok m) (hm : m ≤ 1048573) (s : ByteArray) (bp : Option Addr) (bl bc : Nat) (bs : List Int) (nn : Int) (hb : Bs w bp bl bs) (hbp : bp = none → bc = 0) (hble : bl ≤ bc) (hbc : bc ≤ maxLen) (hbl : bl ≤ 2097152) (hin : InI nn) :
    Calls Tryz.prog 75 #[.pointer (some ⟨D, 0, none⟩), .int .i64 2, .string s, .slice bp bl bc, .int .i64 nn] w fun e w' => e = .returned (.int .i64 (editP d s (appX d bs)).2) ∧ Rw w' D (editP d s (appX d bs)).1 ∧ Kp D D w w' := by
  obtain ⟨_, _, c2, c3, _, _, _, _, _⟩ := h.b.cells
  have hn : n ≤ 1048576 := by have := (h.len ho).1; omega
  have HX := Lib.hid h
  have HB0 := Lib.hid hb
  have hbsl : bs.length = bl := hb.1
  have HFI := Lib.hid (rffind_any x s w h.f (by rw [h.fd]; exact ho.fd (by omega)))
  rw [h.fd] at HFI
  have HGE := Lib.hid fun W (hW : Below w.heap.size w W) i => rget12_any (h.later hW) (by omega) i
  have HTK := Lib.hid fun W (hW : Below w.heap.size w W) => rtaken12_any (h.later hW) ho (by omega)
  unfold Fo.v at HFI
  unfold editP
  cases hf : findP (nowQ d.F) s with
  | none =>
    rw [hf] at HFI
    unfold fndV at HFI
    dsimp only at HFI ⊢
    clear h ho hf hb
    go_enter Tryz.func75, Tryz.ntmps75
    go_wp2_with (go_at_call 32; refine HFI.out.mono ?_; rintro e w2 ⟨rfl, hb2⟩; have HB2 := Lib.hid hb2; clear hb2)
    go_ret
    exact ⟨rfl, ⟨x, p, n, c, L, HX.out.later HB2.out⟩, Kp.of_below HB2.out⟩
  | some i =>
    rw [hf] at HFI
    unfold fndV at HFI
    dsimp only at HFI ⊢
    have HGF := Lib.hid fun W (hW : Below w.heap.size w W) => HGE.out W hW i
    have hXok := ho.fi (by omega) i
    have hXb := (ho.at' i).1
    have hXl := (ho.at' i).2.1
    have hU := ho.used (by omega)
    have hib := ho.lb
    unfold InI at hib
    generalize atK d.K i = X at *
    have HXO := Lib.hid hXok
    have hrX0 := roomP_pos X
    have hrX1 := roomP_le hXb
    have HYO := Lib.hid (appendP_ok hXok (by rw [hbsl]; exact hbl) (by omega))
    have hrY1 := roomP_le (x := appendP X bs) (by unfold appendP; split <;> (try split) <;> exact hXb)
    have hop : appX d bs X = (appendP X bs, if appendE X bs ≠ 0 then appendE X bs else if roomP X < roomP (appendP X bs) ∧ d.lb < usedK d.K + (roomP (appendP X bs) - roomP X) then 9 else 0) := rfl
    rw [hop]
    dsimp only
    have hrY0 := roomP_pos (appendP X bs)
    have hc0 : ∀ W, Below w.heap.size w W → W.cell? ⟨D, 0, none⟩ = some (.int .i64 d.lb) := fun W hW => (h.later hW).b.cells.1
    have HC0 := Lib.hid hc0
    generalize hYY : (appendP X bs) = Y at *
    generalize hEE : appendE X bs = E at *
    generalize hrX : roomP X = rX at *
    generalize hrY : roomP Y = rY at *
    generalize hUU : usedK d.K = U at *
    generalize hLB : d.lb = LB at *
    have HLB := Lib.hid hLB
    have HRX := Lib.hid hrX
    have HRY := Lib.hid hrY
    clear h ho hf hb hc0 hXok hXb hXl hop hrX hrY hUU hLB
    by_cases he : E = 0
    · subst he
      rw [show (if (0 : Int) ≠ 0 then (0 : Int) else if rX < rY ∧ LB < U + (rY - rX) then 9 else 0) = (if rX < rY ∧ LB < U + (rY - rX) then 9 else 0) from if_neg (by simp)]
      by_cases hg : rX < rY
      · by_cases hv : LB < U + (rY - rX)
        · rw [show (if rX < rY ∧ LB < U + (rY - rX) then (9 : Int) else 0) = 9 from if_pos ⟨hg, hv⟩, if_neg (show ¬ ((9 : Int) = 0) by decide)]
          have q1 : decide (rY > rX) = true := by simpa using hg
          have q1' : decide (rX < rY) = true := by simpa using hg
          have hsub : IntKind.i64.wrap (U - rX) = U - rX := by rw [IntKind.wrap_i64]; omega
          have hadd : IntKind.i64.wrap (U - rX + rY) = U - rX + rY := by rw [IntKind.wrap_i64]; omega
          have q2 : decide (U - rX + rY > LB) = true := by simp; omega
          have q2' : decide (LB < U - rX + rY) = true := by simp; omega
          have HG := Lib.hid hg
          clear hg
          have HV := Lib.hid hv
          clear hv
          go_enter Tryz.func75, Tryz.ntmps75
          go_wp2_with (first
              | (go_at_call 32; refine HFI.out.mono ?_; rintro e w2 ⟨rfl, hb2⟩; have HB2 := Lib.hid hb2; have HG2 := Lib.hid (HGF.out w2 hb2); clear hb2)
              | (go_at_call 78; refine HG2.out.mono ?_; rintro e w3 ⟨y, rfl, hm3, _, hyf, hb3⟩
                 obtain ⟨yp, yn, yc, yq, ym, yd, yz, yL⟩ := y
                 unfold Ni.v
                 dsimp only
                 have HFX : Hid (Ni.fit w ⟨yp, yn, yc, yq, ym, yd, yz, yL⟩) := Lib.hid (by rcases hm3 with e | ⟨z, hz, e⟩ <;> first | (rw [e]; exact ni0_fit w) | (rw [← e]; exact HX.out.i z hz))
                 have HYF := Lib.hid hyf
                 have HB3 := Lib.hid (below_step HB2.out hb3)
                 obtain ⟨w4, hw4⟩ : ∃ W, w3.alloc (.cells #[.slice yp yn yc, .slice yq ym yd] 73) = W := ⟨_, rfl⟩
                 obtain ⟨G1, hG1⟩ : ∃ G, w3.heap.size = G := ⟨_, rfl⟩
                 have HB34 : Hid (Below w3.heap.size w3 w4) := Lib.hid (by rw [← hw4]; exact (Below.refl _ _).alloc (Nat.le_refl _) _)
                 have HI4 : Hid (Iw w4 G1 ⟨yp, yn, yc, yq, ym, yd, yz, yL⟩) := Lib.hid (by rw [← hw4, ← hG1]; exact heap_alloc_new _ _)
                 obtain ⟨w5, hw5⟩ : ∃ W, w4.alloc (.cells #[.slice yp yn yc, .slice yq ym yd] 73) = W := ⟨_, rfl⟩
                 obtain ⟨G2, hG2⟩ : ∃ G, w4.heap.size = G := ⟨_, rfl⟩
                 have HB45 : Hid (Below w4.heap.size w4 w5) := Lib.hid (by rw [← hw5]; exact (Below.refl _ _).alloc (Nat.le_refl _) _)
                 have HI5 : Hid (Iw w5 G2 ⟨yp, yn, yc, yq, ym, yd, yz, yL⟩) := Lib.hid (by rw [← hw5, ← hG2]; exact heap_alloc_new _ _)
                 have HI45 := Lib.hid (HI4.out.later HB45.out)
                 have HB5 := Lib.hid (below_step (below_step HB3.out HB34.out) HB45.out)
                 have HWG : Hid (w.heap.size ≤ G2 ∧ G1 < G2) := Lib.hid ⟨by rw [← hG2]; exact (below_step HB3.out HB34.out).size, by rw [← hG2]; exact HI4.out.lt⟩
                 have HFX5 := Lib.hid (HFX.out.later HB5.out)
                 obtain ⟨a0, a1⟩ := HI4.out.cells
                 obtain ⟨b0, b1⟩ := HI45.out.cells
                 have HOP := Lib.hid (rappend_ino ⟨yp, yn, yc, yq, ym, yd, yz, yL⟩ bp bl bc bs w5 HFX5.out (by rw [HYF.out]; exact HXO.out) (HB0.out.later HB5.out) hbp hble hbc hbl)
                 unfold Ni.v at HOP
                 rw [hyf, hYY, hEE] at HOP
                 dsimp only at HOP
                 clear hm3 hyf hb3)
              | (go_at_call 97; refine HOP.out.mono ?_; rintro e w6 ⟨z, rfl, hz6, hzf, hb6⟩
                 obtain ⟨zp, zn, zc, zq, zm, zd, zz, zL⟩ := z
                 dsimp only
                 have HB6 := Lib.hid (below_step HB5.out hb6)
                 have HI6 := Lib.hid (HI5.out.later hb6)
                 have HI6a := Lib.hid (HI45.out.later hb6)
                 obtain ⟨d0, d1'⟩ := HI6.out.cells
                 have f0 := HI6.out.frozen 0
                 have f1 := HI6.out.frozen 1
                 obtain ⟨w7, hw7⟩ : ∃ W, (w6.setCell ⟨G2, 0, none⟩ (.slice zp zn zc)).setCell ⟨G2, 1, none⟩ (.slice zq zm zd) = W := ⟨_, rfl⟩
                 have HKE : Hid (∀ k, k ≠ G2 → w7.heap[k]? = w6.heap[k]?) := Lib.hid (by rw [← hw7]; exact stored2_keep _ _ _ _)
                 have HI7 : Hid (Iw w7 G2 ⟨zp, zn, zc, zq, zm, zd, zz, zL⟩) := Lib.hid (by rw [← hw7]; exact cells2_stored HI6.out _ _)
                 have HI7a : Hid (Iw w7 G1 ⟨yp, yn, yc, yq, ym, yd, yz, yL⟩) := Lib.hid (by unfold Iw; rw [HKE.out G1 (by have := HWG.out.2; omega)]; exact HI6a.out)
                 have HFZ : Hid (Ni.fit w7 ⟨zp, zn, zc, zq, zm, zd, zz, zL⟩) := Lib.hid (hz6.stored HI6.out.sl2 HKE.out)
                 have HZF := Lib.hid hzf
                 have HB7 : Hid (Below w.heap.size w w7) := Lib.hid (by rw [← hw7]; exact (HB6.out.setCell (p := ⟨G2, 0, none⟩) HWG.out.1 _).setCell (p := ⟨G2, 1, none⟩) HWG.out.1 _)
                 clear hz6 hzf hb6))
          have HFX7 := Lib.hid (HFX.out.later HB7.out)
          have HBD : Hid (Below w7.heap.size w7 w7.drew) := Lib.hid ((Below.refl _ _).drew)
          have HLX := Lib.hid (Ni.len HFX7.out (by rw [HYF.out]; exact HXO.out))
          have HLZ := Lib.hid (Ni.len HFZ.out (by rw [HZF.out]; exact HYO.out))
          have HPX : Hid (∀ W, Below w7.heap.size w7 W → Calls Tryz.prog 99 #[.int .i64 (yn : Int), .slice yq ym yd] W fun e w' => e = .returned (.int .i64 rX) ∧ Below W.heap.size W w') := Lib.hid fun W hW => by
            have := rpeak_any (yn : Int) yq ym yd yL W (HFX7.out.later hW).2.2.2.1 (by have := HLX.out.2.1; dsimp only at this; omega)
            rw [show peakP (yn : Int) (chs yL) = rX from by rw [← HRX.out, ← HYF.out]; show _ = peakP ((yz.length : Nat) : Int) (chs yL); rw [HLX.out.2.2.1]] at this
            exact this
          have HPZ : Hid (∀ W, Below w7.heap.size w7 W → Calls Tryz.prog 99 #[.int .i64 (zn : Int), .slice zq zm zd] W fun e w' => e = .returned (.int .i64 rY) ∧ Below W.heap.size W w') := Lib.hid fun W hW => by
            have := rpeak_any (zn : Int) zq zm zd zL W (HFZ.out.later hW).2.2.2.1 (by have := HLZ.out.2.1; dsimp only at this; omega)
            rw [show peakP (zn : Int) (chs zL) = rY from by rw [← HRY.out, ← HZF.out]; show _ = peakP ((zz.length : Nat) : Int) (chs zL); rw [HLZ.out.2.2.1]] at this
            exact this
          have HGC : Hid (∀ W, Below w7.heap.size w7 W → W.cell? ⟨G1, 0, none⟩ = some (.slice yp yn yc) ∧ W.cell? ⟨G1, 1, none⟩ = some (.slice yq ym yd) ∧ W.cell? ⟨G2, 0, none⟩ = some (.slice zp zn zc) ∧ W.cell? ⟨G2, 1, none⟩ = some (.slice zq zm zd)) := Lib.hid fun W hW => by
            obtain ⟨a, b⟩ := (HI7a.out.later hW).cells
            obtain ⟨c, d⟩ := (HI7.out.later hW).cells
            exact ⟨a, b, c, d⟩
          have k0 := HGC.out _ (Below.refl _ _)
          have k1 := HGC.out _ HBD.out
          go_wp2_with fail
          go_region_held3 (fun W => W.cell? ⟨G1, 0, none⟩ = some (.slice yp yn yc) ∧ W.cell? ⟨G1, 1, none⟩ = some (.slice yq ym yd) ∧ W.cell? ⟨G2, 0, none⟩ = some (.slice zp zn zc) ∧ W.cell? ⟨G2, 1, none⟩ = some (.slice zq zm zd)) (first | exact k0 | exact k1 | exact k8 | exact k9) (first | (go_at_call 99; with_reducible refine (HPX.out _ HB8.out).mono ?_; rintro e w9 ⟨rfl, hb9⟩; have HB9 := Lib.hid (below_step HB8.out hb9); have k9 := HGC.out _ HB9.out; clear hb9) | (go_at_call 99; with_reducible refine (HPZ.out _ HB8.out).mono ?_; rintro e w9 ⟨rfl, hb9⟩; have HB9 := Lib.hid (below_step HB8.out hb9); have k9 := HGC.out _ HB9.out; clear hb9) | (go_at_call 99; with_reducible refine (HPX.out _ HBD.out).mono ?_; rintro e w8 ⟨rfl, hb8⟩; have HB8 := Lib.hid (below_step HBD.out hb8); have k8 := HGC.out _ HB8.out; clear hb8) | (go_at_call 99; with_reducible refine (HPZ.out _ HBD.out).mono ?_; rintro e w8 ⟨rfl, hb8⟩; have HB8 := Lib.hid (below_step HBD.out hb8); have k8 := HGC.out _ HB8.out; clear hb8))
          all_goals (have HBR : Hid (Below w7.heap.size w7 w9.drew) := Lib.hid (HB9.out.drew))
          all_goals (have HBWD : Hid (Below w.heap.size w w9.drew) := Lib.hid (below_step HB7.out HBR.out))
          all_goals (have HBW9 : Hid (Below w.heap.size w w9) := Lib.hid (below_step HB7.out HB9.out))
          all_goals (have kc9 := HC0.out _ HBW9.out)
          all_goals (have kcd := HC0.out _ HBWD.out)
          all_goals (go_wp2_with fail)
          all_goals (go_region_held3 (fun W => W.cell? ⟨D, 0, none⟩ = some (.int .i64 LB)) (first | exact kc9 | exact kcd | exact kc10) (first | (go_at_call 77; refine (HTK.out _ HBWD.out).mono ?_; rintro e w10 ⟨rfl, hb10⟩; have HB10 := Lib.hid (below_step HBR.out hb10); have HBW := Lib.hid (below_step HBWD.out hb10); have kc10 := HC0.out _ HBW.out; clear hb10)))
          all_goals (go_wp2_with fail)
          all_goals go_ret
          all_goals (exact ⟨rfl, ⟨x, p, n, c, L, HX.out.later HBW.out⟩, Kp.of_below HBW.out⟩)
        · rw [show (if rX < rY ∧ LB < U + (rY - rX) then (9 : Int) else 0) = 0 from if_neg (fun e => hv e.2), if_pos rfl]
          have q1 : decide (rY > rX) = true := by simpa using hg
          have q1' : decide (rX < rY) = true := by simpa using hg
          have hsub : IntKind.i64.wrap (U - rX) = U - rX := by rw [IntKind.wrap_i64]; omega
          have hadd : IntKind.i64.wrap (U - rX + rY) = U - rX + rY := by rw [IntKind.wrap_i64]; omega
          have q2 : decide (U - rX + rY > LB) = false := by simp; omega
          have q2' : decide (LB < U - rX + rY) = false := by simp; omega
          have q3 : U - rX + rY ≤ LB := by omega
          have q4 : ¬ LB < U - rX + rY := by omega
          have HG := Lib.hid hg
          clear hg
          have HV := Lib.hid hv
          clear hv
          go_enter Tryz.func75, Tryz.ntmps75
          go_wp2_with (first
              | (go_at_call 32; refine HFI.out.mono ?_; rintro e w2 ⟨rfl, hb2⟩; have HB2 := Lib.hid hb2; have HG2 := Lib.hid (HGF.out w2 hb2); clear hb2)
              | (go_at_call 78; refine HG2.out.mono ?_; rintro e w3 ⟨y, rfl, hm3, _, hyf, hb3⟩
                 obtain ⟨yp, yn, yc, yq, ym, yd, yz, yL⟩ := y
                 unfold Ni.v
                 dsimp only
                 have HFX : Hid (Ni.fit w ⟨yp, yn, yc, yq, ym, yd, yz, yL⟩) := Lib.hid (by rcases hm3 with e | ⟨z, hz, e⟩ <;> first | (rw [e]; exact ni0_fit w) | (rw [← e]; exact HX.out.i z hz))
                 have HYF := Lib.hid hyf
                 have HB3 := Lib.hid (below_step HB2.out hb3)
                 obtain ⟨w4, hw4⟩ : ∃ W, w3.alloc (.cells #[.slice yp yn yc, .slice yq ym yd] 73) = W := ⟨_, rfl⟩
                 obtain ⟨G1, hG1⟩ : ∃ G, w3.heap.size = G := ⟨_, rfl⟩
                 have HB34 : Hid (Below w3.heap.size w3 w4) := Lib.hid (by rw [← hw4]; exact (Below.refl _ _).alloc (Nat.le_refl _) _)
                 have HI4 : Hid (Iw w4 G1 ⟨yp, yn, yc, yq, ym, yd, yz, yL⟩) := Lib.hid (by rw [← hw4, ← hG1]; exact heap_alloc_new _ _)
                 obtain ⟨w5, hw5⟩ : ∃ W, w4.alloc (.cells #[.slice yp yn yc, .slice yq ym yd] 73) = W := ⟨_, rfl⟩
                 obtain ⟨G2, hG2⟩ : ∃ G, w4.heap.size = G := ⟨_, rfl⟩
                 have HB45 : Hid (Below w4.heap.size w4 w5) := Lib.hid (by rw [← hw5]; exact (Below.refl _ _).alloc (Nat.le_refl _) _)
                 have HI5 : Hid (Iw w5 G2 ⟨yp, yn, yc, yq, ym, yd, yz, yL⟩) := Lib.hid (by rw [← hw5, ← hG2]; exact heap_alloc_new _ _)
                 have HI45 := Lib.hid (HI4.out.later HB45.out)
                 have HB5 := Lib.hid (below_step (below_step HB3.out HB34.out) HB45.out)
                 have HWG : Hid (w.heap.size ≤ G2 ∧ G1 < G2) := Lib.hid ⟨by rw [← hG2]; exact (below_step HB3.out HB34.out).size, by rw [← hG2]; exact HI4.out.lt⟩
                 have HFX5 := Lib.hid (HFX.out.later HB5.out)
                 obtain ⟨a0, a1⟩ := HI4.out.cells
                 obtain ⟨b0, b1⟩ := HI45.out.cells
                 have HOP := Lib.hid (rappend_ino ⟨yp, yn, yc, yq, ym, yd, yz, yL⟩ bp bl bc bs w5 HFX5.out (by rw [HYF.out]; exact HXO.out) (HB0.out.later HB5.out) hbp hble hbc hbl)
                 unfold Ni.v at HOP
                 rw [hyf, hYY, hEE] at HOP
                 dsimp only at HOP
                 clear hm3 hyf hb3)
              | (go_at_call 97; refine HOP.out.mono ?_; rintro e w6 ⟨z, rfl, hz6, hzf, hb6⟩
                 obtain ⟨zp, zn, zc, zq, zm, zd, zz, zL⟩ := z
                 dsimp only
                 have HB6 := Lib.hid (below_step HB5.out hb6)
                 have HI6 := Lib.hid (HI5.out.later hb6)
                 have HI6a := Lib.hid (HI45.out.later hb6)
                 obtain ⟨d0, d1'⟩ := HI6.out.cells
                 have f0 := HI6.out.frozen 0
                 have f1 := HI6.out.frozen 1
                 obtain ⟨w7, hw7⟩ : ∃ W, (w6.setCell ⟨G2, 0, none⟩ (.slice zp zn zc)).setCell ⟨G2, 1, none⟩ (.slice zq zm zd) = W := ⟨_, rfl⟩
                 have HKE : Hid (∀ k, k ≠ G2 → w7.heap[k]? = w6.heap[k]?) := Lib.hid (by rw [← hw7]; exact stored2_keep _ _ _ _)
                 have HI7 : Hid (Iw w7 G2 ⟨zp, zn, zc, zq, zm, zd, zz, zL⟩) := Lib.hid (by rw [← hw7]; exact cells2_stored HI6.out _ _)
                 have HI7a : Hid (Iw w7 G1 ⟨yp, yn, yc, yq, ym, yd, yz, yL⟩) := Lib.hid (by unfold Iw; rw [HKE.out G1 (by have := HWG.out.2; omega)]; exact HI6a.out)
                 have HFZ : Hid (Ni.fit w7 ⟨zp, zn, zc, zq, zm, zd, zz, zL⟩) := Lib.hid (hz6.stored HI6.out.sl2 HKE.out)
                 have HZF := Lib.hid hzf
                 have HB7 : Hid (Below w.heap.size w w7) := Lib.hid (by rw [← hw7]; exact (HB6.out.setCell (p := ⟨G2, 0, none⟩) HWG.out.1 _).setCell (p := ⟨G2, 1, none⟩) HWG.out.1 _)
                 clear hz6 hzf hb6))
          have HFX7 := Lib.hid (HFX.out.later HB7.out)
          have HBD : Hid (Below w7.heap.size w7 w7.drew) := Lib.hid ((Below.refl _ _).drew)
          have HLX := Lib.hid (Ni.len HFX7.out (by rw [HYF.out]; exact HXO.out))
          have HLZ := Lib.hid (Ni.len HFZ.out (by rw [HZF.out]; exact HYO.out))
          have HPX : Hid (∀ W, Below w7.heap.size w7 W → Calls Tryz.prog 99 #[.int .i64 (yn : Int), .slice yq ym yd] W fun e w' => e = .returned (.int .i64 rX) ∧ Below W.heap.size W w') := Lib.hid fun W hW => by
            have := rpeak_any (yn : Int) yq ym yd yL W (HFX7.out.later hW).2.2.2.1 (by have := HLX.out.2.1; dsimp only at this; omega)
            rw [show peakP (yn : Int) (chs yL) = rX from by rw [← HRX.out, ← HYF.out]; show _ = peakP ((yz.length : Nat) : Int) (chs yL); rw [HLX.out.2.2.1]] at this
            exact this
          have HPZ : Hid (∀ W, Below w7.heap.size w7 W → Calls Tryz.prog 99 #[.int .i64 (zn : Int), .slice zq zm zd] W fun e w' => e = .returned (.int .i64 rY) ∧ Below W.heap.size W w') := Lib.hid fun W hW => by
            have := rpeak_any (zn : Int) zq zm zd zL W (HFZ.out.later hW).2.2.2.1 (by have := HLZ.out.2.1; dsimp only at this; omega)
            rw [show peakP (zn : Int) (chs zL) = rY from by rw [← HRY.out, ← HZF.out]; show _ = peakP ((zz.length : Nat) : Int) (chs zL); rw [HLZ.out.2.2.1]] at this
            exact this
          have HGC : Hid (∀ W, Below w7.heap.size w7 W → W.cell? ⟨G1, 0, none⟩ = some (.slice yp yn yc) ∧ W.cell? ⟨G1, 1, none⟩ = some (.slice yq ym yd) ∧ W.cell? ⟨G2, 0, none⟩ = some (.slice zp zn zc) ∧ W.cell? ⟨G2, 1, none⟩ = some (.slice zq zm zd)) := Lib.hid fun W hW => by
            obtain ⟨a, b⟩ := (HI7a.out.later hW).cells
            obtain ⟨c, d⟩ := (HI7.out.later hW).cells
            exact ⟨a, b, c, d⟩
          have k0 := HGC.out _ (Below.refl _ _)
          have k1 := HGC.out _ HBD.out
          go_wp2_with fail
          go_region_held3 (fun W => W.cell? ⟨G1, 0, none⟩ = some (.slice yp yn yc) ∧ W.cell? ⟨G1, 1, none⟩ = some (.slice yq ym yd) ∧ W.cell? ⟨G2, 0, none⟩ = some (.slice zp zn zc) ∧ W.cell? ⟨G2, 1, none⟩ = some (.slice zq zm zd)) (first | exact k0 | exact k1 | exact k8 | exact k9) (first | (go_at_call 99; with_reducible refine (HPX.out _ HB8.out).mono ?_; rintro e w9 ⟨rfl, hb9⟩; have HB9 := Lib.hid (below_step HB8.out hb9); have k9 := HGC.out _ HB9.out; clear hb9) | (go_at_call 99; with_reducible refine (HPZ.out _ HB8.out).mono ?_; rintro e w9 ⟨rfl, hb9⟩; have HB9 := Lib.hid (below_step HB8.out hb9); have k9 := HGC.out _ HB9.out; clear hb9) | (go_at_call 99; with_reducible refine (HPX.out _ HBD.out).mono ?_; rintro e w8 ⟨rfl, hb8⟩; have HB8 := Lib.hid (below_step HBD.out hb8); have k8 := HGC.out _ HB8.out; clear hb8) | (go_at_call 99; with_reducible refine (HPZ.out _ HBD.out).mono ?_; rintro e w8 ⟨rfl, hb8⟩; have HB8 := Lib.hid (below_step HBD.out hb8); have k8 := HGC.out _ HB8.out; clear hb8))
          all_goals (have HBR : Hid (Below w7.heap.size w7 w9.drew) := Lib.hid (HB9.out.drew))
          all_goals (have HBWD : Hid (Below w.heap.size w w9.drew) := Lib.hid (below_step HB7.out HBR.out))
          all_goals (have HBW9 : Hid (Below w.heap.size w w9) := Lib.hid (below_step HB7.out HB9.out))
          all_goals (have kc9 := HC0.out _ HBW9.out)
          all_goals (have kcd := HC0.out _ HBWD.out)
          all_goals (go_wp2_with fail)
          all_goals (go_region_held3 (fun W => W.cell? ⟨D, 0, none⟩ = some (.int .i64 LB)) (first | exact kc9 | exact kcd | exact kc10) (first | (go_at_call 77; refine (HTK.out _ HBWD.out).mono ?_; rintro e w10 ⟨rfl, hb10⟩; have HB10 := Lib.hid (below_step HBR.out hb10); have HBW := Lib.hid (below_step HBWD.out hb10); have kc10 := HC0.out _ HBW.out; clear hb10)))
          all_goals (have kg10 := HGC.out _ HB10.out)
          all_goals (go_wp2_with (go_at_call 100; refine (rset12_any (HX.out.later (HBW.out)) hn i ⟨zp, zn, zc, zq, zm, zd, zz, zL⟩ (HFZ.out.later HB10.out)).mono ?_; rintro e w12 ⟨rfl, hw12, hk12⟩; have HW12 := Lib.hid hw12; have HK12 := Lib.hid hk12; clear hw12 hk12))
          all_goals go_ret
          all_goals (exact ⟨rfl, by have hh := HW12.out; rw [HZF.out] at hh; rw [← HLB.out]; exact hh, (Kp.of_below HBW.out).trans HK12.out⟩)
      · rw [show (if rX < rY ∧ LB < U + (rY - rX) then (9 : Int) else 0) = 0 from if_neg (fun e => hg e.1), if_pos rfl]
        have q1 : decide (rY > rX) = false := by simpa using hg
        have q1' : decide (rX < rY) = false := by simpa using hg
        have HG := Lib.hid hg
        clear hg
        go_enter Tryz.func75, Tryz.ntmps75
        go_wp2_with (first
            | (go_at_call 32; refine HFI.out.mono ?_; rintro e w2 ⟨rfl, hb2⟩; have HB2 := Lib.hid hb2; have HG2 := Lib.hid (HGF.out w2 hb2); clear hb2)
            | (go_at_call 78; refine HG2.out.mono ?_; rintro e w3 ⟨y, rfl, hm3, _, hyf, hb3⟩
               obtain ⟨yp, yn, yc, yq, ym, yd, yz, yL⟩ := y
               unfold Ni.v
               dsimp only
               have HFX : Hid (Ni.fit w ⟨yp, yn, yc, yq, ym, yd, yz, yL⟩) := Lib.hid (by rcases hm3 with e | ⟨z, hz, e⟩ <;> first | (rw [e]; exact ni0_fit w) | (rw [← e]; exact HX.out.i z hz))
               have HYF := Lib.hid hyf
               have HB3 := Lib.hid (below_step HB2.out hb3)
               obtain ⟨w4, hw4⟩ : ∃ W, w3.alloc (.cells #[.slice yp yn yc, .slice yq ym yd] 73) = W := ⟨_, rfl⟩
               obtain ⟨G1, hG1⟩ : ∃ G, w3.heap.size = G := ⟨_, rfl⟩
               have HB34 : Hid (Below w3.heap.size w3 w4) := Lib.hid (by rw [← hw4]; exact (Below.refl _ _).alloc (Nat.le_refl _) _)
               have HI4 : Hid (Iw w4 G1 ⟨yp, yn, yc, yq, ym, yd, yz, yL⟩) := Lib.hid (by rw [← hw4, ← hG1]; exact heap_alloc_new _ _)
               obtain ⟨w5, hw5⟩ : ∃ W, w4.alloc (.cells #[.slice yp yn yc, .slice yq ym yd] 73) = W := ⟨_, rfl⟩
               obtain ⟨G2, hG2⟩ : ∃ G, w4.heap.size = G := ⟨_, rfl⟩
               have HB45 : Hid (Below w4.heap.size w4 w5) := Lib.hid (by rw [← hw5]; exact (Below.refl _ _).alloc (Nat.le_refl _) _)
               have HI5 : Hid (Iw w5 G2 ⟨yp, yn, yc, yq, ym, yd, yz, yL⟩) := Lib.hid (by rw [← hw5, ← hG2]; exact heap_alloc_new _ _)
               have HI45 := Lib.hid (HI4.out.later HB45.out)
               have HB5 := Lib.hid (below_step (below_step HB3.out HB34.out) HB45.out)
               have HWG : Hid (w.heap.size ≤ G2 ∧ G1 < G2) := Lib.hid ⟨by rw [← hG2]; exact (below_step HB3.out HB34.out).size, by rw [← hG2]; exact HI4.out.lt⟩
               have HFX5 := Lib.hid (HFX.out.later HB5.out)
               obtain ⟨a0, a1⟩ := HI4.out.cells
               obtain ⟨b0, b1⟩ := HI45.out.cells
               have HOP := Lib.hid (rappend_ino ⟨yp, yn, yc, yq, ym, yd, yz, yL⟩ bp bl bc bs w5 HFX5.out (by rw [HYF.out]; exact HXO.out) (HB0.out.later HB5.out) hbp hble hbc hbl)
               unfold Ni.v at HOP
               rw [hyf, hYY, hEE] at HOP
               dsimp only at HOP
               clear hm3 hyf hb3)
            | (go_at_call 97; refine HOP.out.mono ?_; rintro e w6 ⟨z, rfl, hz6, hzf, hb6⟩
               obtain ⟨zp, zn, zc, zq, zm, zd, zz, zL⟩ := z
               dsimp only
               have HB6 := Lib.hid (below_step HB5.out hb6)
               have HI6 := Lib.hid (HI5.out.later hb6)
               have HI6a := Lib.hid (HI45.out.later hb6)
               obtain ⟨d0, d1'⟩ := HI6.out.cells
               have f0 := HI6.out.frozen 0
               have f1 := HI6.out.frozen 1
               obtain ⟨w7, hw7⟩ : ∃ W, (w6.setCell ⟨G2, 0, none⟩ (.slice zp zn zc)).setCell ⟨G2, 1, none⟩ (.slice zq zm zd) = W := ⟨_, rfl⟩
               have HKE : Hid (∀ k, k ≠ G2 → w7.heap[k]? = w6.heap[k]?) := Lib.hid (by rw [← hw7]; exact stored2_keep _ _ _ _)
               have HI7 : Hid (Iw w7 G2 ⟨zp, zn, zc, zq, zm, zd, zz, zL⟩) := Lib.hid (by rw [← hw7]; exact cells2_stored HI6.out _ _)
               have HI7a : Hid (Iw w7 G1 ⟨yp, yn, yc, yq, ym, yd, yz, yL⟩) := Lib.hid (by unfold Iw; rw [HKE.out G1 (by have := HWG.out.2; omega)]; exact HI6a.out)
               have HFZ : Hid (Ni.fit w7 ⟨zp, zn, zc, zq, zm, zd, zz, zL⟩) := Lib.hid (hz6.stored HI6.out.sl2 HKE.out)
               have HZF := Lib.hid hzf
               have HB7 : Hid (Below w.heap.size w w7) := Lib.hid (by rw [← hw7]; exact (HB6.out.setCell (p := ⟨G2, 0, none⟩) HWG.out.1 _).setCell (p := ⟨G2, 1, none⟩) HWG.out.1 _)
               clear hz6 hzf hb6))
        have HFX7 := Lib.hid (HFX.out.later HB7.out)
        have HBD : Hid (Below w7.heap.size w7 w7.drew) := Lib.hid ((Below.refl _ _).drew)
        have HLX := Lib.hid (Ni.len HFX7.out (by rw [HYF.out]; exact HXO.out))
        have HLZ := Lib.hid (Ni.len HFZ.out (by rw [HZF.out]; exact HYO.out))
        have HPX : Hid (∀ W, Below w7.heap.size w7 W → Calls Tryz.prog 99 #[.int .i64 (yn : Int), .slice yq ym yd] W fun e w' => e = .returned (.int .i64 rX) ∧ Below W.heap.size W w') := Lib.hid fun W hW => by
          have := rpeak_any (yn : Int) yq ym yd yL W (HFX7.out.later hW).2.2.2.1 (by have := HLX.out.2.1; dsimp only at this; omega)
          rw [show peakP (yn : Int) (chs yL) = rX from by rw [← HRX.out, ← HYF.out]; show _ = peakP ((yz.length : Nat) : Int) (chs yL); rw [HLX.out.2.2.1]] at this
          exact this
        have HPZ : Hid (∀ W, Below w7.heap.size w7 W → Calls Tryz.prog 99 #[.int .i64 (zn : Int), .slice zq zm zd] W fun e w' => e = .returned (.int .i64 rY) ∧ Below W.heap.size W w') := Lib.hid fun W hW => by
          have := rpeak_any (zn : Int) zq zm zd zL W (HFZ.out.later hW).2.2.2.1 (by have := HLZ.out.2.1; dsimp only at this; omega)
          rw [show peakP (zn : Int) (chs zL) = rY from by rw [← HRY.out, ← HZF.out]; show _ = peakP ((zz.length : Nat) : Int) (chs zL); rw [HLZ.out.2.2.1]] at this
          exact this
        have HGC : Hid (∀ W, Below w7.heap.size w7 W → W.cell? ⟨G1, 0, none⟩ = some (.slice yp yn yc) ∧ W.cell? ⟨G1, 1, none⟩ = some (.slice yq ym yd) ∧ W.cell? ⟨G2, 0, none⟩ = some (.slice zp zn zc) ∧ W.cell? ⟨G2, 1, none⟩ = some (.slice zq zm zd)) := Lib.hid fun W hW => by
          obtain ⟨a, b⟩ := (HI7a.out.later hW).cells
          obtain ⟨c, d⟩ := (HI7.out.later hW).cells
          exact ⟨a, b, c, d⟩
        have k0 := HGC.out _ (Below.refl _ _)
        have k1 := HGC.out _ HBD.out
        go_wp2_with fail
        go_region_held3 (fun W => W.cell? ⟨G1, 0, none⟩ = some (.slice yp yn yc) ∧ W.cell? ⟨G1, 1, none⟩ = some (.slice yq ym yd) ∧ W.cell? ⟨G2, 0, none⟩ = some (.slice zp zn zc) ∧ W.cell? ⟨G2, 1, none⟩ = some (.slice zq zm zd)) (first | exact k0 | exact k1 | exact k8 | exact k9) (first | (go_at_call 99; with_reducible refine (HPX.out _ HB8.out).mono ?_; rintro e w9 ⟨rfl, hb9⟩; have HB9 := Lib.hid (below_step HB8.out hb9); have k9 := HGC.out _ HB9.out; clear hb9) | (go_at_call 99; with_reducible refine (HPZ.out _ HB8.out).mono ?_; rintro e w9 ⟨rfl, hb9⟩; have HB9 := Lib.hid (below_step HB8.out hb9); have k9 := HGC.out _ HB9.out; clear hb9) | (go_at_call 99; with_reducible refine (HPX.out _ HBD.out).mono ?_; rintro e w8 ⟨rfl, hb8⟩; have HB8 := Lib.hid (below_step HBD.out hb8); have k8 := HGC.out _ HB8.out; clear hb8) | (go_at_call 99; with_reducible refine (HPZ.out _ HBD.out).mono ?_; rintro e w8 ⟨rfl, hb8⟩; have HB8 := Lib.hid (below_step HBD.out hb8); have k8 := HGC.out _ HB8.out; clear hb8))
        all_goals (have HBR : Hid (Below w7.heap.size w7 w9.drew) := Lib.hid (HB9.out.drew))
        all_goals (have HBWD : Hid (Below w.heap.size w w9.drew) := Lib.hid (below_step HB7.out HBR.out))
        all_goals (have HBW9 : Hid (Below w.heap.size w w9) := Lib.hid (below_step HB7.out HB9.out))
        all_goals (have kc9 := HC0.out _ HBW9.out)
        all_goals (have kcd := HC0.out _ HBWD.out)
        all_goals (go_wp2_with fail)
        all_goals (go_quiet (fail))
        all_goals (have HB10 : Hid (Below w7.heap.size w7 (w9.drewN nq)) := Lib.hid (below_drewN HB9.out nq))
        all_goals (have HBW : Hid (Below w.heap.size w (w9.drewN nq)) := Lib.hid (below_drewN HBW9.out nq))
        all_goals (go_wp2_with (go_at_call 100; refine (rset12_any (HX.out.later (HBW.out)) hn i ⟨zp, zn, zc, zq, zm, zd, zz, zL⟩ (HFZ.out.later HB10.out)).mono ?_; rintro e w12 ⟨rfl, hw12, hk12⟩; have HW12 := Lib.hid hw12; have HK12 := Lib.hid hk12; clear hw12 hk12))
        all_goals go_ret
        all_goals (exact ⟨rfl, by have hh := HW12.out; rw [HZF.out] at hh; rw [← HLB.out]; exact hh, (Kp.of_below HBW.out).trans HK12.out⟩)
    · rw [show (if E ≠ 0 then E else if rX < rY ∧ LB < U + (rY - rX) then 9 else 0) = E from if_pos he, if_neg he]
      have q0 : (E != 0) = true := by simpa using he
      have HE := Lib.hid he
      clear he
      go_enter Tryz.func75, Tryz.ntmps75
      go_wp2_with (first
          | (go_at_call 32; refine HFI.out.mono ?_; rintro e w2 ⟨rfl, hb2⟩; have HB2 := Lib.hid hb2; have HG2 := Lib.hid (HGF.out w2 hb2); clear hb2)
          | (go_at_call 78; refine HG2.out.mono ?_; rintro e w3 ⟨y, rfl, hm3, _, hyf, hb3⟩
             obtain ⟨yp, yn, yc, yq, ym, yd, yz, yL⟩ := y
             unfold Ni.v
             dsimp only
             have HFX : Hid (Ni.fit w ⟨yp, yn, yc, yq, ym, yd, yz, yL⟩) := Lib.hid (by rcases hm3 with e | ⟨z, hz, e⟩ <;> first | (rw [e]; exact ni0_fit w) | (rw [← e]; exact HX.out.i z hz))
             have HYF := Lib.hid hyf
             have HB3 := Lib.hid (below_step HB2.out hb3)
             obtain ⟨w4, hw4⟩ : ∃ W, w3.alloc (.cells #[.slice yp yn yc, .slice yq ym yd] 73) = W := ⟨_, rfl⟩
             obtain ⟨G1, hG1⟩ : ∃ G, w3.heap.size = G := ⟨_, rfl⟩
             have HB34 : Hid (Below w3.heap.size w3 w4) := Lib.hid (by rw [← hw4]; exact (Below.refl _ _).alloc (Nat.le_refl _) _)
             have HI4 : Hid (Iw w4 G1 ⟨yp, yn, yc, yq, ym, yd, yz, yL⟩) := Lib.hid (by rw [← hw4, ← hG1]; exact heap_alloc_new _ _)
             obtain ⟨w5, hw5⟩ : ∃ W, w4.alloc (.cells #[.slice yp yn yc, .slice yq ym yd] 73) = W := ⟨_, rfl⟩
             obtain ⟨G2, hG2⟩ : ∃ G, w4.heap.size = G := ⟨_, rfl⟩
             have HB45 : Hid (Below w4.heap.size w4 w5) := Lib.hid (by rw [← hw5]; exact (Below.refl _ _).alloc (Nat.le_refl _) _)
             have HI5 : Hid (Iw w5 G2 ⟨yp, yn, yc, yq, ym, yd, yz, yL⟩) := Lib.hid (by rw [← hw5, ← hG2]; exact heap_alloc_new _ _)
             have HI45 := Lib.hid (HI4.out.later HB45.out)
             have HB5 := Lib.hid (below_step (below_step HB3.out HB34.out) HB45.out)
             have HWG : Hid (w.heap.size ≤ G2 ∧ G1 < G2) := Lib.hid ⟨by rw [← hG2]; exact (below_step HB3.out HB34.out).size, by rw [← hG2]; exact HI4.out.lt⟩
             have HFX5 := Lib.hid (HFX.out.later HB5.out)
             obtain ⟨a0, a1⟩ := HI4.out.cells
             obtain ⟨b0, b1⟩ := HI45.out.cells
             have HOP := Lib.hid (rappend_ino ⟨yp, yn, yc, yq, ym, yd, yz, yL⟩ bp bl bc bs w5 HFX5.out (by rw [HYF.out]; exact HXO.out) (HB0.out.later HB5.out) hbp hble hbc hbl)
             unfold Ni.v at HOP
             rw [hyf, hYY, hEE] at HOP
             dsimp only at HOP
             clear hm3 hyf hb3)
          | (go_at_call 97; refine HOP.out.mono ?_; rintro e w6 ⟨z, rfl, hz6, hzf, hb6⟩
             obtain ⟨zp, zn, zc, zq, zm, zd, zz, zL⟩ := z
             dsimp only
             have HB6 := Lib.hid (below_step HB5.out hb6)
             have HI6 := Lib.hid (HI5.out.later hb6)
             have HI6a := Lib.hid (HI45.out.later hb6)
             obtain ⟨d0, d1'⟩ := HI6.out.cells
             have f0 := HI6.out.frozen 0
             have f1 := HI6.out.frozen 1
             obtain ⟨w7, hw7⟩ : ∃ W, (w6.setCell ⟨G2, 0, none⟩ (.slice zp zn zc)).setCell ⟨G2, 1, none⟩ (.slice zq zm zd) = W := ⟨_, rfl⟩
             have HKE : Hid (∀ k, k ≠ G2 → w7.heap[k]? = w6.heap[k]?) := Lib.hid (by rw [← hw7]; exact stored2_keep _ _ _ _)
             have HI7 : Hid (Iw w7 G2 ⟨zp, zn, zc, zq, zm, zd, zz, zL⟩) := Lib.hid (by rw [← hw7]; exact cells2_stored HI6.out _ _)
             have HI7a : Hid (Iw w7 G1 ⟨yp, yn, yc, yq, ym, yd, yz, yL⟩) := Lib.hid (by unfold Iw; rw [HKE.out G1 (by have := HWG.out.2; omega)]; exact HI6a.out)
             have HFZ : Hid (Ni.fit w7 ⟨zp, zn, zc, zq, zm, zd, zz, zL⟩) := Lib.hid (hz6.stored HI6.out.sl2 HKE.out)
             have HZF := Lib.hid hzf
             have HB7 : Hid (Below w.heap.size w w7) := Lib.hid (by rw [← hw7]; exact (HB6.out.setCell (p := ⟨G2, 0, none⟩) HWG.out.1 _).setCell (p := ⟨G2, 1, none⟩) HWG.out.1 _)
             clear hz6 hzf hb6))
      go_ret
      exact ⟨rfl, ⟨x, p, n, c, L, HX.out.later HB7.out⟩, Kp.of_below HB7.out⟩

set_option maxRecDepth 100000 in
set_option maxHeartbeats 4000000 in
theorem ron12_cut {w : World} {D m : Nat} {d : Dk} {x : Fo} {p : Option Addr} {n c : Nat} {L : List Kr} (h : Rx w D d x p n c L) (ho : d.Ok m) (hm : m ≤ 1048573) (s : ByteArray) (bp : Option Addr) (bl bc : Nat) (bs : List Int) (nn : Int) (hb : Bs w bp bl bs) (hbp : bp = none → bc = 0) (hble : bl ≤ bc) (hbc : bc ≤ maxLen) (hbl : bl ≤ 2097152) (hin : InI nn) :
    Calls Tryz.prog 75 #[.pointer (some ⟨D, 0, none⟩), .int .i64 3, .string s, .slice bp bl bc, .int .i64 nn] w fun e w' => e = .returned (.int .i64 (editP d s (cutX nn)).2) ∧ Rw w' D (editP d s (cutX nn)).1 ∧ Kp D D w w' := by
  obtain ⟨_, _, c2, c3, _, _, _, _, _⟩ := h.b.cells
  have hn : n ≤ 1048576 := by have := (h.len ho).1; omega
  have HX := Lib.hid h
  have HB0 := Lib.hid hb
  have hbsl : bs.length = bl := hb.1
  have HFI := Lib.hid (rffind_any x s w h.f (by rw [h.fd]; exact ho.fd (by omega)))
  rw [h.fd] at HFI
  have HGE := Lib.hid fun W (hW : Below w.heap.size w W) i => rget12_any (h.later hW) (by omega) i
  have HTK := Lib.hid fun W (hW : Below w.heap.size w W) => rtaken12_any (h.later hW) ho (by omega)
  unfold Fo.v at HFI
  unfold editP
  cases hf : findP (nowQ d.F) s with
  | none =>
    rw [hf] at HFI
    unfold fndV at HFI
    dsimp only at HFI ⊢
    clear h ho hf hb
    go_enter Tryz.func75, Tryz.ntmps75
    go_wp2_with (go_at_call 32; refine HFI.out.mono ?_; rintro e w2 ⟨rfl, hb2⟩; have HB2 := Lib.hid hb2; clear hb2)
    go_ret
    exact ⟨rfl, ⟨x, p, n, c, L, HX.out.later HB2.out⟩, Kp.of_below HB2.out⟩
  | some i =>
    rw [hf] at HFI
    unfold fndV at HFI
    dsimp only at HFI ⊢
    have HGF := Lib.hid fun W (hW : Below w.heap.size w W) => HGE.out W hW i
    have hXok := ho.fi (by omega) i
    have hXb := (ho.at' i).1
    have hXl := (ho.at' i).2.1
    have hU := ho.used (by omega)
    have hib := ho.lb
    unfold InI at hib
    generalize atK d.K i = X at *
    have HXO := Lib.hid hXok
    have hrX0 := roomP_pos X
    have hrX1 := roomP_le hXb
    have HYO := Lib.hid (cutP_ok (n := nn) hXok (by omega))
    have hrY1 := roomP_le (x := cutP X nn) (by unfold cutP; split <;> exact hXb)
    have hop : cutX nn X = (cutP X nn, cutE X nn) := rfl
    rw [hop]
    dsimp only
    have hnr := fun e => roomP_cut X nn e
    have hrY0 := roomP_pos (cutP X nn)
    have hc0 : ∀ W, Below w.heap.size w W → W.cell? ⟨D, 0, none⟩ = some (.int .i64 d.lb) := fun W hW => (h.later hW).b.cells.1
    have HC0 := Lib.hid hc0
    generalize hYY : (cutP X nn) = Y at *
    generalize hEE : cutE X nn = E at *
    generalize hrX : roomP X = rX at *
    generalize hrY : roomP Y = rY at *
    generalize hUU : usedK d.K = U at *
    generalize hLB : d.lb = LB at *
    have HLB := Lib.hid hLB
    have HRX := Lib.hid hrX
    have HRY := Lib.hid hrY
    clear h ho hf hb hc0 hXok hXb hXl hop hrX hrY hUU hLB
    by_cases he : E = 0
    · subst he
      rw [if_pos rfl]
      have hg : ¬ rX < rY := by have := hnr rfl; omega
      have q1 : decide (rY > rX) = false := by simpa using hg
      have q1' : decide (rX < rY) = false := by simpa using hg
      have HG := Lib.hid hg
      clear hg
      go_enter Tryz.func75, Tryz.ntmps75
      go_wp2_with (first
          | (go_at_call 32; refine HFI.out.mono ?_; rintro e w2 ⟨rfl, hb2⟩; have HB2 := Lib.hid hb2; have HG2 := Lib.hid (HGF.out w2 hb2); clear hb2)
          | (go_at_call 78; refine HG2.out.mono ?_; rintro e w3 ⟨y, rfl, hm3, _, hyf, hb3⟩
             obtain ⟨yp, yn, yc, yq, ym, yd, yz, yL⟩ := y
             unfold Ni.v
             dsimp only
             have HFX : Hid (Ni.fit w ⟨yp, yn, yc, yq, ym, yd, yz, yL⟩) := Lib.hid (by rcases hm3 with e | ⟨z, hz, e⟩ <;> first | (rw [e]; exact ni0_fit w) | (rw [← e]; exact HX.out.i z hz))
             have HYF := Lib.hid hyf
             have HB3 := Lib.hid (below_step HB2.out hb3)
             obtain ⟨w4, hw4⟩ : ∃ W, w3.alloc (.cells #[.slice yp yn yc, .slice yq ym yd] 73) = W := ⟨_, rfl⟩
             obtain ⟨G1, hG1⟩ : ∃ G, w3.heap.size = G := ⟨_, rfl⟩
             have HB34 : Hid (Below w3.heap.size w3 w4) := Lib.hid (by rw [← hw4]; exact (Below.refl _ _).alloc (Nat.le_refl _) _)
             have HI4 : Hid (Iw w4 G1 ⟨yp, yn, yc, yq, ym, yd, yz, yL⟩) := Lib.hid (by rw [← hw4, ← hG1]; exact heap_alloc_new _ _)
             obtain ⟨w5, hw5⟩ : ∃ W, w4.alloc (.cells #[.slice yp yn yc, .slice yq ym yd] 73) = W := ⟨_, rfl⟩
             obtain ⟨G2, hG2⟩ : ∃ G, w4.heap.size = G := ⟨_, rfl⟩
             have HB45 : Hid (Below w4.heap.size w4 w5) := Lib.hid (by rw [← hw5]; exact (Below.refl _ _).alloc (Nat.le_refl _) _)
             have HI5 : Hid (Iw w5 G2 ⟨yp, yn, yc, yq, ym, yd, yz, yL⟩) := Lib.hid (by rw [← hw5, ← hG2]; exact heap_alloc_new _ _)
             have HI45 := Lib.hid (HI4.out.later HB45.out)
             have HB5 := Lib.hid (below_step (below_step HB3.out HB34.out) HB45.out)
             have HWG : Hid (w.heap.size ≤ G2 ∧ G1 < G2) := Lib.hid ⟨by rw [← hG2]; exact (below_step HB3.out HB34.out).size, by rw [← hG2]; exact HI4.out.lt⟩
             have HFX5 := Lib.hid (HFX.out.later HB5.out)
             obtain ⟨a0, a1⟩ := HI4.out.cells
             obtain ⟨b0, b1⟩ := HI45.out.cells
             have HOP := Lib.hid (rcut_ino ⟨yp, yn, yc, yq, ym, yd, yz, yL⟩ nn w5 HFX5.out (by rw [HYF.out]; exact HXO.out) (by unfold InI at hin; unfold InI64; omega))
             unfold Ni.v at HOP
             rw [hyf, hYY, hEE] at HOP
             dsimp only at HOP
             clear hm3 hyf hb3)
          | (go_at_call 98; refine HOP.out.mono ?_; rintro e w6 ⟨z, rfl, hz6, hzf, hb6⟩
             obtain ⟨zp, zn, zc, zq, zm, zd, zz, zL⟩ := z
             dsimp only
             have HB6 := Lib.hid (below_step HB5.out hb6)
             have HI6 := Lib.hid (HI5.out.later hb6)
             have HI6a := Lib.hid (HI45.out.later hb6)
             obtain ⟨d0, d1'⟩ := HI6.out.cells
             have f0 := HI6.out.frozen 0
             have f1 := HI6.out.frozen 1
             obtain ⟨w7, hw7⟩ : ∃ W, (w6.setCell ⟨G2, 0, none⟩ (.slice zp zn zc)).setCell ⟨G2, 1, none⟩ (.slice zq zm zd) = W := ⟨_, rfl⟩
             have HKE : Hid (∀ k, k ≠ G2 → w7.heap[k]? = w6.heap[k]?) := Lib.hid (by rw [← hw7]; exact stored2_keep _ _ _ _)
             have HI7 : Hid (Iw w7 G2 ⟨zp, zn, zc, zq, zm, zd, zz, zL⟩) := Lib.hid (by rw [← hw7]; exact cells2_stored HI6.out _ _)
             have HI7a : Hid (Iw w7 G1 ⟨yp, yn, yc, yq, ym, yd, yz, yL⟩) := Lib.hid (by unfold Iw; rw [HKE.out G1 (by have := HWG.out.2; omega)]; exact HI6a.out)
             have HFZ : Hid (Ni.fit w7 ⟨zp, zn, zc, zq, zm, zd, zz, zL⟩) := Lib.hid (hz6.stored HI6.out.sl2 HKE.out)
             have HZF := Lib.hid hzf
             have HB7 : Hid (Below w.heap.size w w7) := Lib.hid (by rw [← hw7]; exact (HB6.out.setCell (p := ⟨G2, 0, none⟩) HWG.out.1 _).setCell (p := ⟨G2, 1, none⟩) HWG.out.1 _)
             clear hz6 hzf hb6))
      have HFX7 := Lib.hid (HFX.out.later HB7.out)
      have HBD : Hid (Below w7.heap.size w7 w7.drew) := Lib.hid ((Below.refl _ _).drew)
      have HLX := Lib.hid (Ni.len HFX7.out (by rw [HYF.out]; exact HXO.out))
      have HLZ := Lib.hid (Ni.len HFZ.out (by rw [HZF.out]; exact HYO.out))
      have HPX : Hid (∀ W, Below w7.heap.size w7 W → Calls Tryz.prog 99 #[.int .i64 (yn : Int), .slice yq ym yd] W fun e w' => e = .returned (.int .i64 rX) ∧ Below W.heap.size W w') := Lib.hid fun W hW => by
        have := rpeak_any (yn : Int) yq ym yd yL W (HFX7.out.later hW).2.2.2.1 (by have := HLX.out.2.1; dsimp only at this; omega)
        rw [show peakP (yn : Int) (chs yL) = rX from by rw [← HRX.out, ← HYF.out]; show _ = peakP ((yz.length : Nat) : Int) (chs yL); rw [HLX.out.2.2.1]] at this
        exact this
      have HPZ : Hid (∀ W, Below w7.heap.size w7 W → Calls Tryz.prog 99 #[.int .i64 (zn : Int), .slice zq zm zd] W fun e w' => e = .returned (.int .i64 rY) ∧ Below W.heap.size W w') := Lib.hid fun W hW => by
        have := rpeak_any (zn : Int) zq zm zd zL W (HFZ.out.later hW).2.2.2.1 (by have := HLZ.out.2.1; dsimp only at this; omega)
        rw [show peakP (zn : Int) (chs zL) = rY from by rw [← HRY.out, ← HZF.out]; show _ = peakP ((zz.length : Nat) : Int) (chs zL); rw [HLZ.out.2.2.1]] at this
        exact this
      have HGC : Hid (∀ W, Below w7.heap.size w7 W → W.cell? ⟨G1, 0, none⟩ = some (.slice yp yn yc) ∧ W.cell? ⟨G1, 1, none⟩ = some (.slice yq ym yd) ∧ W.cell? ⟨G2, 0, none⟩ = some (.slice zp zn zc) ∧ W.cell? ⟨G2, 1, none⟩ = some (.slice zq zm zd)) := Lib.hid fun W hW => by
        obtain ⟨a, b⟩ := (HI7a.out.later hW).cells
        obtain ⟨c, d⟩ := (HI7.out.later hW).cells
        exact ⟨a, b, c, d⟩
      have k0 := HGC.out _ (Below.refl _ _)
      have k1 := HGC.out _ HBD.out
      go_wp2_with fail
      go_region_held3 (fun W => W.cell? ⟨G1, 0, none⟩ = some (.slice yp yn yc) ∧ W.cell? ⟨G1, 1, none⟩ = some (.slice yq ym yd) ∧ W.cell? ⟨G2, 0, none⟩ = some (.slice zp zn zc) ∧ W.cell? ⟨G2, 1, none⟩ = some (.slice zq zm zd)) (first | exact k0 | exact k1 | exact k8 | exact k9) (first | (go_at_call 99; with_reducible refine (HPX.out _ HB8.out).mono ?_; rintro e w9 ⟨rfl, hb9⟩; have HB9 := Lib.hid (below_step HB8.out hb9); have k9 := HGC.out _ HB9.out; clear hb9) | (go_at_call 99; with_reducible refine (HPZ.out _ HB8.out).mono ?_; rintro e w9 ⟨rfl, hb9⟩; have HB9 := Lib.hid (below_step HB8.out hb9); have k9 := HGC.out _ HB9.out; clear hb9) | (go_at_call 99; with_reducible refine (HPX.out _ HBD.out).mono ?_; rintro e w8 ⟨rfl, hb8⟩; have HB8 := Lib.hid (below_step HBD.out hb8); have k8 := HGC.out _ HB8.out; clear hb8) | (go_at_call 99; with_reducible refine (HPZ.out _ HBD.out).mono ?_; rintro e w8 ⟨rfl, hb8⟩; have HB8 := Lib.hid (below_step HBD.out hb8); have k8 := HGC.out _ HB8.out; clear hb8))
      all_goals (have HBR : Hid (Below w7.heap.size w7 w9.drew) := Lib.hid (HB9.out.drew))
      all_goals (have HBWD : Hid (Below w.heap.size w w9.drew) := Lib.hid (below_step HB7.out HBR.out))
      all_goals (have HBW9 : Hid (Below w.heap.size w w9) := Lib.hid (below_step HB7.out HB9.out))
      all_goals (have kc9 := HC0.out _ HBW9.out)
      all_goals (have kcd := HC0.out _ HBWD.out)
      all_goals (go_wp2_with fail)
      all_goals (go_quiet (fail))
      all_goals (have HB10 : Hid (Below w7.heap.size w7 (w9.drewN nq)) := Lib.hid (below_drewN HB9.out nq))
      all_goals (have HBW : Hid (Below w.heap.size w (w9.drewN nq)) := Lib.hid (below_drewN HBW9.out nq))
      all_goals (go_wp2_with (go_at_call 100; refine (rset12_any (HX.out.later (HBW.out)) hn i ⟨zp, zn, zc, zq, zm, zd, zz, zL⟩ (HFZ.out.later HB10.out)).mono ?_; rintro e w12 ⟨rfl, hw12, hk12⟩; have HW12 := Lib.hid hw12; have HK12 := Lib.hid hk12; clear hw12 hk12))
      all_goals go_ret
      all_goals (exact ⟨rfl, by have hh := HW12.out; rw [HZF.out] at hh; rw [← HLB.out]; exact hh, (Kp.of_below HBW.out).trans HK12.out⟩)
    · rw [if_neg he]
      have q0 : (E != 0) = true := by simpa using he
      have HE := Lib.hid he
      clear he
      go_enter Tryz.func75, Tryz.ntmps75
      go_wp2_with (first
          | (go_at_call 32; refine HFI.out.mono ?_; rintro e w2 ⟨rfl, hb2⟩; have HB2 := Lib.hid hb2; have HG2 := Lib.hid (HGF.out w2 hb2); clear hb2)
          | (go_at_call 78; refine HG2.out.mono ?_; rintro e w3 ⟨y, rfl, hm3, _, hyf, hb3⟩
             obtain ⟨yp, yn, yc, yq, ym, yd, yz, yL⟩ := y
             unfold Ni.v
             dsimp only
             have HFX : Hid (Ni.fit w ⟨yp, yn, yc, yq, ym, yd, yz, yL⟩) := Lib.hid (by rcases hm3 with e | ⟨z, hz, e⟩ <;> first | (rw [e]; exact ni0_fit w) | (rw [← e]; exact HX.out.i z hz))
             have HYF := Lib.hid hyf
             have HB3 := Lib.hid (below_step HB2.out hb3)
             obtain ⟨w4, hw4⟩ : ∃ W, w3.alloc (.cells #[.slice yp yn yc, .slice yq ym yd] 73) = W := ⟨_, rfl⟩
             obtain ⟨G1, hG1⟩ : ∃ G, w3.heap.size = G := ⟨_, rfl⟩
             have HB34 : Hid (Below w3.heap.size w3 w4) := Lib.hid (by rw [← hw4]; exact (Below.refl _ _).alloc (Nat.le_refl _) _)
             have HI4 : Hid (Iw w4 G1 ⟨yp, yn, yc, yq, ym, yd, yz, yL⟩) := Lib.hid (by rw [← hw4, ← hG1]; exact heap_alloc_new _ _)
             obtain ⟨w5, hw5⟩ : ∃ W, w4.alloc (.cells #[.slice yp yn yc, .slice yq ym yd] 73) = W := ⟨_, rfl⟩
             obtain ⟨G2, hG2⟩ : ∃ G, w4.heap.size = G := ⟨_, rfl⟩
             have HB45 : Hid (Below w4.heap.size w4 w5) := Lib.hid (by rw [← hw5]; exact (Below.refl _ _).alloc (Nat.le_refl _) _)
             have HI5 : Hid (Iw w5 G2 ⟨yp, yn, yc, yq, ym, yd, yz, yL⟩) := Lib.hid (by rw [← hw5, ← hG2]; exact heap_alloc_new _ _)
             have HI45 := Lib.hid (HI4.out.later HB45.out)
             have HB5 := Lib.hid (below_step (below_step HB3.out HB34.out) HB45.out)
             have HWG : Hid (w.heap.size ≤ G2 ∧ G1 < G2) := Lib.hid ⟨by rw [← hG2]; exact (below_step HB3.out HB34.out).size, by rw [← hG2]; exact HI4.out.lt⟩
             have HFX5 := Lib.hid (HFX.out.later HB5.out)
             obtain ⟨a0, a1⟩ := HI4.out.cells
             obtain ⟨b0, b1⟩ := HI45.out.cells
             have HOP := Lib.hid (rcut_ino ⟨yp, yn, yc, yq, ym, yd, yz, yL⟩ nn w5 HFX5.out (by rw [HYF.out]; exact HXO.out) (by unfold InI at hin; unfold InI64; omega))
             unfold Ni.v at HOP
             rw [hyf, hYY, hEE] at HOP
             dsimp only at HOP
             clear hm3 hyf hb3)
          | (go_at_call 98; refine HOP.out.mono ?_; rintro e w6 ⟨z, rfl, hz6, hzf, hb6⟩
             obtain ⟨zp, zn, zc, zq, zm, zd, zz, zL⟩ := z
             dsimp only
             have HB6 := Lib.hid (below_step HB5.out hb6)
             have HI6 := Lib.hid (HI5.out.later hb6)
             have HI6a := Lib.hid (HI45.out.later hb6)
             obtain ⟨d0, d1'⟩ := HI6.out.cells
             have f0 := HI6.out.frozen 0
             have f1 := HI6.out.frozen 1
             obtain ⟨w7, hw7⟩ : ∃ W, (w6.setCell ⟨G2, 0, none⟩ (.slice zp zn zc)).setCell ⟨G2, 1, none⟩ (.slice zq zm zd) = W := ⟨_, rfl⟩
             have HKE : Hid (∀ k, k ≠ G2 → w7.heap[k]? = w6.heap[k]?) := Lib.hid (by rw [← hw7]; exact stored2_keep _ _ _ _)
             have HI7 : Hid (Iw w7 G2 ⟨zp, zn, zc, zq, zm, zd, zz, zL⟩) := Lib.hid (by rw [← hw7]; exact cells2_stored HI6.out _ _)
             have HI7a : Hid (Iw w7 G1 ⟨yp, yn, yc, yq, ym, yd, yz, yL⟩) := Lib.hid (by unfold Iw; rw [HKE.out G1 (by have := HWG.out.2; omega)]; exact HI6a.out)
             have HFZ : Hid (Ni.fit w7 ⟨zp, zn, zc, zq, zm, zd, zz, zL⟩) := Lib.hid (hz6.stored HI6.out.sl2 HKE.out)
             have HZF := Lib.hid hzf
             have HB7 : Hid (Below w.heap.size w w7) := Lib.hid (by rw [← hw7]; exact (HB6.out.setCell (p := ⟨G2, 0, none⟩) HWG.out.1 _).setCell (p := ⟨G2, 1, none⟩) HWG.out.1 _)
             clear hz6 hzf hb6))
      go_ret
      exact ⟨rfl, ⟨x, p, n, c, L, HX.out.later HB7.out⟩, Kp.of_below HB7.out⟩

set_option maxRecDepth 100000 in
set_option maxHeartbeats 4000000 in
theorem ron12_syn {w : World} {D m : Nat} {d : Dk} {x : Fo} {p : Option Addr} {n c : Nat} {L : List Kr} (h : Rx w D d x p n c L) (ho : d.Ok m) (hm : m ≤ 1048573) (s : ByteArray) (bp : Option Addr) (bl bc : Nat) (bs : List Int) (nn : Int) (hb : Bs w bp bl bs) (hbp : bp = none → bc = 0) (hble : bl ≤ bc) (hbc : bc ≤ maxLen) (hbl : bl ≤ 2097152) (hin : InI nn) :
    Calls Tryz.prog 75 #[.pointer (some ⟨D, 0, none⟩), .int .i64 4, .string s, .slice bp bl bc, .int .i64 nn] w fun e w' => e = .returned (.int .i64 (editP d s (synX)).2) ∧ Rw w' D (editP d s (synX)).1 ∧ Kp D D w w' := by
  obtain ⟨_, _, c2, c3, _, _, _, _, _⟩ := h.b.cells
  have hn : n ≤ 1048576 := by have := (h.len ho).1; omega
  have HX := Lib.hid h
  have HB0 := Lib.hid hb
  have hbsl : bs.length = bl := hb.1
  have HFI := Lib.hid (rffind_any x s w h.f (by rw [h.fd]; exact ho.fd (by omega)))
  rw [h.fd] at HFI
  have HGE := Lib.hid fun W (hW : Below w.heap.size w W) i => rget12_any (h.later hW) (by omega) i
  have HTK := Lib.hid fun W (hW : Below w.heap.size w W) => rtaken12_any (h.later hW) ho (by omega)
  unfold Fo.v at HFI
  unfold editP
  cases hf : findP (nowQ d.F) s with
  | none =>
    rw [hf] at HFI
    unfold fndV at HFI
    dsimp only at HFI ⊢
    clear h ho hf hb
    go_enter Tryz.func75, Tryz.ntmps75
    go_wp2_with (go_at_call 32; refine HFI.out.mono ?_; rintro e w2 ⟨rfl, hb2⟩; have HB2 := Lib.hid hb2; clear hb2)
    go_ret
    exact ⟨rfl, ⟨x, p, n, c, L, HX.out.later HB2.out⟩, Kp.of_below HB2.out⟩
  | some i =>
    rw [hf] at HFI
    unfold fndV at HFI
    dsimp only at HFI ⊢
    have HGF := Lib.hid fun W (hW : Below w.heap.size w W) => HGE.out W hW i
    have hXok := ho.fi (by omega) i
    have hXb := (ho.at' i).1
    have hXl := (ho.at' i).2.1
    have hU := ho.used (by omega)
    have hib := ho.lb
    unfold InI at hib
    generalize atK d.K i = X at *
    have HXO := Lib.hid hXok
    have hrX0 := roomP_pos X
    have hrX1 := roomP_le hXb
    have HYO : Hid ((syncP X).ok) := Lib.hid ⟨nowP_bound hXok, by simp [syncP], fun c hc => by simp [syncP] at hc⟩
    have hrY1 := roomP_le (x := syncP X) (nowP_le hXb)
    have hop : synX X = (syncP X, 0) := rfl
    rw [hop]
    dsimp only
    have hnr := roomP_sync X
    have hrY0 := roomP_pos (syncP X)
    have hc0 : ∀ W, Below w.heap.size w W → W.cell? ⟨D, 0, none⟩ = some (.int .i64 d.lb) := fun W hW => (h.later hW).b.cells.1
    have HC0 := Lib.hid hc0
    generalize hYY : (syncP X) = Y at *
    generalize hrX : roomP X = rX at *
    generalize hrY : roomP Y = rY at *
    generalize hUU : usedK d.K = U at *
    generalize hLB : d.lb = LB at *
    have HLB := Lib.hid hLB
    have HRX := Lib.hid hrX
    have HRY := Lib.hid hrY
    clear h ho hf hb hc0 hXok hXb hXl hop hrX hrY hUU hLB
    try rw [if_pos rfl]
    have hg : ¬ rX < rY := by omega
    have q1 : decide (rY > rX) = false := by simpa using hg
    have q1' : decide (rX < rY) = false := by simpa using hg
    have HG := Lib.hid hg
    clear hg
    go_enter Tryz.func75, Tryz.ntmps75
    go_wp2_with (first
        | (go_at_call 32; refine HFI.out.mono ?_; rintro e w2 ⟨rfl, hb2⟩; have HB2 := Lib.hid hb2; have HG2 := Lib.hid (HGF.out w2 hb2); clear hb2)
        | (go_at_call 78; refine HG2.out.mono ?_; rintro e w3 ⟨y, rfl, hm3, _, hyf, hb3⟩
           obtain ⟨yp, yn, yc, yq, ym, yd, yz, yL⟩ := y
           unfold Ni.v
           dsimp only
           have HFX : Hid (Ni.fit w ⟨yp, yn, yc, yq, ym, yd, yz, yL⟩) := Lib.hid (by rcases hm3 with e | ⟨z, hz, e⟩ <;> first | (rw [e]; exact ni0_fit w) | (rw [← e]; exact HX.out.i z hz))
           have HYF := Lib.hid hyf
           have HB3 := Lib.hid (below_step HB2.out hb3)
           obtain ⟨w4, hw4⟩ : ∃ W, w3.alloc (.cells #[.slice yp yn yc, .slice yq ym yd] 73) = W := ⟨_, rfl⟩
           obtain ⟨G1, hG1⟩ : ∃ G, w3.heap.size = G := ⟨_, rfl⟩
           have HB34 : Hid (Below w3.heap.size w3 w4) := Lib.hid (by rw [← hw4]; exact (Below.refl _ _).alloc (Nat.le_refl _) _)
           have HI4 : Hid (Iw w4 G1 ⟨yp, yn, yc, yq, ym, yd, yz, yL⟩) := Lib.hid (by rw [← hw4, ← hG1]; exact heap_alloc_new _ _)
           obtain ⟨w5, hw5⟩ : ∃ W, w4.alloc (.cells #[.slice yp yn yc, .slice yq ym yd] 73) = W := ⟨_, rfl⟩
           obtain ⟨G2, hG2⟩ : ∃ G, w4.heap.size = G := ⟨_, rfl⟩
           have HB45 : Hid (Below w4.heap.size w4 w5) := Lib.hid (by rw [← hw5]; exact (Below.refl _ _).alloc (Nat.le_refl _) _)
           have HI5 : Hid (Iw w5 G2 ⟨yp, yn, yc, yq, ym, yd, yz, yL⟩) := Lib.hid (by rw [← hw5, ← hG2]; exact heap_alloc_new _ _)
           have HI45 := Lib.hid (HI4.out.later HB45.out)
           have HB5 := Lib.hid (below_step (below_step HB3.out HB34.out) HB45.out)
           have HWG : Hid (w.heap.size ≤ G2 ∧ G1 < G2) := Lib.hid ⟨by rw [← hG2]; exact (below_step HB3.out HB34.out).size, by rw [← hG2]; exact HI4.out.lt⟩
           have HFX5 := Lib.hid (HFX.out.later HB5.out)
           obtain ⟨a0, a1⟩ := HI4.out.cells
           obtain ⟨b0, b1⟩ := HI45.out.cells
           have HOP := Lib.hid (rnow_any ⟨yp, yn, yc, yq, ym, yd, yz, yL⟩ w5 HFX5.out (by rw [HYF.out]; exact HXO.out))
           unfold Ni.v at HOP
           rw [hyf] at HOP
           dsimp only at HOP
           clear hm3 hyf hb3)
        | (go_at_call 79; refine HOP.out.mono ?_; rintro e w6 ⟨v6, rfl, ho6, hb6⟩
           obtain ⟨zp, zc, hv6, hl6, hm6, hbs6, hpn6⟩ := ho6.open
           subst hv6
           obtain ⟨zn, hzn⟩ : ∃ k, (nowP X).length = k := ⟨_, rfl⟩
           rw [hzn] at hl6 hbs6
           simp only [hzn]
           obtain ⟨zq, hzq⟩ : ∃ q : Option Addr, q = none := ⟨_, rfl⟩
           have hz6 : Ni.fit w6 ⟨zp, zn, zc, none, 0, 0, nowP X, []⟩ := ⟨hbs6, hpn6, hl6, ⟨rfl, by simp, Or.inl rfl⟩, fun _ => rfl, Nat.le_refl _⟩
           have hzf : Ni.fi ⟨zp, zn, zc, none, 0, 0, nowP X, []⟩ = Y := by rw [← hYY]; rfl
           have HB6 := Lib.hid (below_step HB5.out hb6)
           have HI6 := Lib.hid (HI5.out.later hb6)
           have HI6a := Lib.hid (HI45.out.later hb6)
           obtain ⟨d0, d1'⟩ := HI6.out.cells
           have f0 := HI6.out.frozen 0
           have f1 := HI6.out.frozen 1
           obtain ⟨w7, hw7⟩ : ∃ W, (w6.setCell ⟨G2, 0, none⟩ (.slice zp zn zc)).setCell ⟨G2, 1, none⟩ (.slice none 0 0) = W := ⟨_, rfl⟩
           have HKE : Hid (∀ k, k ≠ G2 → w7.heap[k]? = w6.heap[k]?) := Lib.hid (by rw [← hw7]; exact stored2_keep _ _ _ _)
           have HI7 : Hid (Iw w7 G2 ⟨zp, zn, zc, none, 0, 0, nowP X, []⟩) := Lib.hid (by rw [← hw7]; exact cells2_stored HI6.out _ _)
           have HI7a : Hid (Iw w7 G1 ⟨yp, yn, yc, yq, ym, yd, yz, yL⟩) := Lib.hid (by unfold Iw; rw [HKE.out G1 (by have := HWG.out.2; omega)]; exact HI6a.out)
           have HFZ : Hid (Ni.fit w7 ⟨zp, zn, zc, none, 0, 0, nowP X, []⟩) := Lib.hid (hz6.stored HI6.out.sl2 HKE.out)
           have HZF := Lib.hid hzf
           have HB7 : Hid (Below w.heap.size w w7) := Lib.hid (by rw [← hw7]; exact (HB6.out.setCell (p := ⟨G2, 0, none⟩) HWG.out.1 _).setCell (p := ⟨G2, 1, none⟩) HWG.out.1 _)
           clear hz6 hzf hb6))
    have HFX7 := Lib.hid (HFX.out.later HB7.out)
    have HBD : Hid (Below w7.heap.size w7 w7.drew) := Lib.hid ((Below.refl _ _).drew)
    have HLX := Lib.hid (Ni.len HFX7.out (by rw [HYF.out]; exact HXO.out))
    have HLZ := Lib.hid (Ni.len HFZ.out (by rw [HZF.out]; exact HYO.out))
    have HPX : Hid (∀ W, Below w7.heap.size w7 W → Calls Tryz.prog 99 #[.int .i64 (yn : Int), .slice yq ym yd] W fun e w' => e = .returned (.int .i64 rX) ∧ Below W.heap.size W w') := Lib.hid fun W hW => by
      have := rpeak_any (yn : Int) yq ym yd yL W (HFX7.out.later hW).2.2.2.1 (by have := HLX.out.2.1; dsimp only at this; omega)
      rw [show peakP (yn : Int) (chs yL) = rX from by rw [← HRX.out, ← HYF.out]; show _ = peakP ((yz.length : Nat) : Int) (chs yL); rw [HLX.out.2.2.1]] at this
      exact this
    have HPZ : Hid (∀ W, Below w7.heap.size w7 W → Calls Tryz.prog 99 #[.int .i64 (zn : Int), .slice none 0 0] W fun e w' => e = .returned (.int .i64 rY) ∧ Below W.heap.size W w') := Lib.hid fun W hW => by
      have := rpeak_any (zn : Int) none 0 0 [] W (HFZ.out.later hW).2.2.2.1 (by have := HLZ.out.2.1; dsimp only at this; omega)
      rw [show peakP (zn : Int) (chs []) = rY from by rw [← HRY.out, ← HZF.out]; show _ = peakP (((nowP X).length : Nat) : Int) (chs []); rw [HLZ.out.2.2.1]] at this
      exact this
    have HGC : Hid (∀ W, Below w7.heap.size w7 W → W.cell? ⟨G1, 0, none⟩ = some (.slice yp yn yc) ∧ W.cell? ⟨G1, 1, none⟩ = some (.slice yq ym yd) ∧ W.cell? ⟨G2, 0, none⟩ = some (.slice zp zn zc) ∧ W.cell? ⟨G2, 1, none⟩ = some (.slice none 0 0)) := Lib.hid fun W hW => by
      obtain ⟨a, b⟩ := (HI7a.out.later hW).cells
      obtain ⟨c, d⟩ := (HI7.out.later hW).cells
      exact ⟨a, b, c, d⟩
    have k0 := HGC.out _ (Below.refl _ _)
    have k1 := HGC.out _ HBD.out
    go_wp2_with fail
    go_region_held3 (fun W => W.cell? ⟨G1, 0, none⟩ = some (.slice yp yn yc) ∧ W.cell? ⟨G1, 1, none⟩ = some (.slice yq ym yd) ∧ W.cell? ⟨G2, 0, none⟩ = some (.slice zp zn zc) ∧ W.cell? ⟨G2, 1, none⟩ = some (.slice none 0 0)) (first | exact k0 | exact k1 | exact k8 | exact k9) (first | (go_at_call 99; with_reducible refine (HPX.out _ HB8.out).mono ?_; rintro e w9 ⟨rfl, hb9⟩; have HB9 := Lib.hid (below_step HB8.out hb9); have k9 := HGC.out _ HB9.out; clear hb9) | (go_at_call 99; with_reducible refine (HPZ.out _ HB8.out).mono ?_; rintro e w9 ⟨rfl, hb9⟩; have HB9 := Lib.hid (below_step HB8.out hb9); have k9 := HGC.out _ HB9.out; clear hb9) | (go_at_call 99; with_reducible refine (HPX.out _ HBD.out).mono ?_; rintro e w8 ⟨rfl, hb8⟩; have HB8 := Lib.hid (below_step HBD.out hb8); have k8 := HGC.out _ HB8.out; clear hb8) | (go_at_call 99; with_reducible refine (HPZ.out _ HBD.out).mono ?_; rintro e w8 ⟨rfl, hb8⟩; have HB8 := Lib.hid (below_step HBD.out hb8); have k8 := HGC.out _ HB8.out; clear hb8))
    all_goals (have HBR : Hid (Below w7.heap.size w7 w9.drew) := Lib.hid (HB9.out.drew))
    all_goals (have HBWD : Hid (Below w.heap.size w w9.drew) := Lib.hid (below_step HB7.out HBR.out))
    all_goals (have HBW9 : Hid (Below w.heap.size w w9) := Lib.hid (below_step HB7.out HB9.out))
    all_goals (have kc9 := HC0.out _ HBW9.out)
    all_goals (have kcd := HC0.out _ HBWD.out)
    all_goals (go_wp2_with fail)
    all_goals (go_quiet (fail))
    all_goals (have HB10 : Hid (Below w7.heap.size w7 (w9.drewN nq)) := Lib.hid (below_drewN HB9.out nq))
    all_goals (have HBW : Hid (Below w.heap.size w (w9.drewN nq)) := Lib.hid (below_drewN HBW9.out nq))
    all_goals (go_wp2_with (go_at_call 100; refine (rset12_any (HX.out.later (HBW.out)) hn i ⟨zp, zn, zc, none, 0, 0, nowP X, []⟩ (HFZ.out.later HB10.out)).mono ?_; rintro e w12 ⟨rfl, hw12, hk12⟩; have HW12 := Lib.hid hw12; have HK12 := Lib.hid hk12; clear hw12 hk12))
    all_goals go_ret
    all_goals (exact ⟨rfl, by have hh := HW12.out; rw [HZF.out] at hh; rw [← HLB.out]; exact hh, (Kp.of_below HBW.out).trans HK12.out⟩)

end Go.Proofs.YtncbgddgkpaoeaaGreat

namespace Go.Proofs.YtncbgddgkpaoeaaGreat
set_option linter.unusedVariables false
open Go.RowKit Go.Lib

set_option maxRecDepth 100000 in
set_option maxHeartbeats 2000000 in
theorem rfree12_any {w : World} {D m : Nat} {d : Dk} {x : Fo} {p : Option Addr} {n c : Nat} {L : List Kr} (h : Rx w D d x p n c L) (ho : d.Ok m) (hm : m ≤ 1048575) :
    Calls Tryz.prog 41 #[.pointer (some ⟨D, 0, none⟩)] w fun e w' => e = .returned (.tuple #[.int .i64 (leftP d.lb (usedK d.K)), .int .i64 (leftP d.lf (d.K.length : Int))]) ∧ Below w.heap.size w w' := by
  have HBD : Hid (Below w.heap.size w w.drew) := Lib.hid ((Below.refl _ _).drew)
  have HT := Lib.hid fun W (hW : Below w.heap.size w W) => rtaken12_any (h.later hW) ho hm
  have HGC : Hid (∀ W, Below w.heap.size w W → W.cell? ⟨D, 0, none⟩ = some (.int .i64 d.lb) ∧ W.cell? ⟨D, 1, none⟩ = some (.int .i64 d.lf) ∧ W.cell? ⟨D, 4, none⟩ = some (.slice p n c)) := Lib.hid fun W hW => by
    obtain ⟨c0, c1, _, _, c4, _⟩ := (h.later hW).b.cells
    exact ⟨c0, c1, c4⟩
  have hU := ho.used hm
  have hib := ho.lb
  have hif := ho.lf
  have hn : n ≤ 1048575 := by have := (h.len ho).1; omega
  rw [(h.len ho).2]
  have k0 := HGC.out _ (Below.refl _ _)
  have k1 := HGC.out _ HBD.out
  generalize usedK d.K = U at *
  generalize d.lb = LB at *
  generalize d.lf = LF at *
  clear h ho
  by_cases h1 : LB > U <;> by_cases h2 : LF > (n : Int)
  · have q1 : decide (LB > U) = true := by simpa using h1
    have q2 : decide (LF > (n : Int)) = true := by simpa using h2
    have hs1 : IntKind.i64.wrap (LB - U) = LB - U := by rw [IntKind.wrap_i64]; unfold InI at hib; omega
    have hs2 : IntKind.i64.wrap (LF - (n : Int)) = LF - (n : Int) := by rw [IntKind.wrap_i64]; unfold InI at hif; omega
    have HR1 : Hid (leftP LB U = LB - U) := Lib.hid (by unfold leftP; omega)
    have HR2 : Hid (leftP LF (n : Int) = LF - (n : Int)) := Lib.hid (by unfold leftP; omega)
    clear h1 h2
    go_enter Tryz.func41, Tryz.ntmps41
    go_wp2_with fail
    go_region_held3 (fun W => W.cell? ⟨D, 0, none⟩ = some (.int .i64 LB) ∧ W.cell? ⟨D, 1, none⟩ = some (.int .i64 LF) ∧ W.cell? ⟨D, 4, none⟩ = some (.slice p n c)) (first | exact k0 | exact k1 | exact k2) (first | (go_at_call 77; refine (HT.out _ HBD.out).mono ?_; rintro e w2 ⟨rfl, hb2⟩; have HB2 := Lib.hid (below_step HBD.out hb2); have k2 := HGC.out _ HB2.out; clear hb2))
    have HBE : Hid (Below w.heap.size w w2.drew) := Lib.hid (HB2.out.drew)
    have k3 := HGC.out _ HBE.out
    go_wp2_with fail
    go_region_held3 (fun W => W.cell? ⟨D, 0, none⟩ = some (.int .i64 LB) ∧ W.cell? ⟨D, 1, none⟩ = some (.int .i64 LF) ∧ W.cell? ⟨D, 4, none⟩ = some (.slice p n c)) (first | exact k2 | exact k3 | exact k4) (first | (go_at_call 77; refine (HT.out _ HBE.out).mono ?_; rintro e w3 ⟨rfl, hb3⟩; have HB3 := Lib.hid (below_step HBE.out hb3); have k4 := HGC.out _ HB3.out; clear hb3))
    have HBF : Hid (Below w.heap.size w w3.drew) := Lib.hid (HB3.out.drew)
    have k5 := HGC.out _ HBF.out
    have HBG : Hid (Below w.heap.size w w3.drew.drew) := Lib.hid (HBF.out.drew)
    have k6 := HGC.out _ HBG.out
    go_wp2_with fail
    go_region_held3 (fun W => W.cell? ⟨D, 0, none⟩ = some (.int .i64 LB) ∧ W.cell? ⟨D, 1, none⟩ = some (.int .i64 LF) ∧ W.cell? ⟨D, 4, none⟩ = some (.slice p n c)) (first | exact k4 | exact k5) (fail)
    go_wp2_with fail
    go_region_held3 (fun W => W.cell? ⟨D, 0, none⟩ = some (.int .i64 LB) ∧ W.cell? ⟨D, 1, none⟩ = some (.int .i64 LF) ∧ W.cell? ⟨D, 4, none⟩ = some (.slice p n c)) (first | exact k5 | exact k6 | exact k3 | exact k7) (fail)
    go_wp2_with fail
    go_ret2
    rw [HR1.out, HR2.out]
    refine ⟨rfl, ?_⟩
    first | exact HBG.out | exact HBG.out.drew | exact HBE.out | exact HBF.out
  · have q1 : decide (LB > U) = true := by simpa using h1
    have q2 : decide (LF > (n : Int)) = false := by simpa using h2
    have hs1 : IntKind.i64.wrap (LB - U) = LB - U := by rw [IntKind.wrap_i64]; unfold InI at hib; omega
    have HR1 : Hid (leftP LB U = LB - U) := Lib.hid (by unfold leftP; omega)
    have HR2 : Hid (leftP LF (n : Int) = 0) := Lib.hid (by unfold leftP; omega)
    clear h1 h2
    go_enter Tryz.func41, Tryz.ntmps41
    go_wp2_with fail
    go_region_held3 (fun W => W.cell? ⟨D, 0, none⟩ = some (.int .i64 LB) ∧ W.cell? ⟨D, 1, none⟩ = some (.int .i64 LF) ∧ W.cell? ⟨D, 4, none⟩ = some (.slice p n c)) (first | exact k0 | exact k1 | exact k2) (first | (go_at_call 77; refine (HT.out _ HBD.out).mono ?_; rintro e w2 ⟨rfl, hb2⟩; have HB2 := Lib.hid (below_step HBD.out hb2); have k2 := HGC.out _ HB2.out; clear hb2))
    have HBE : Hid (Below w.heap.size w w2.drew) := Lib.hid (HB2.out.drew)
    have k3 := HGC.out _ HBE.out
    go_wp2_with fail
    go_region_held3 (fun W => W.cell? ⟨D, 0, none⟩ = some (.int .i64 LB) ∧ W.cell? ⟨D, 1, none⟩ = some (.int .i64 LF) ∧ W.cell? ⟨D, 4, none⟩ = some (.slice p n c)) (first | exact k2 | exact k3 | exact k4) (first | (go_at_call 77; refine (HT.out _ HBE.out).mono ?_; rintro e w3 ⟨rfl, hb3⟩; have HB3 := Lib.hid (below_step HBE.out hb3); have k4 := HGC.out _ HB3.out; clear hb3))
    have HBF : Hid (Below w.heap.size w w3.drew) := Lib.hid (HB3.out.drew)
    have k5 := HGC.out _ HBF.out
    have HBG : Hid (Below w.heap.size w w3.drew.drew) := Lib.hid (HBF.out.drew)
    have k6 := HGC.out _ HBG.out
    go_wp2_with fail
    go_region_held3 (fun W => W.cell? ⟨D, 0, none⟩ = some (.int .i64 LB) ∧ W.cell? ⟨D, 1, none⟩ = some (.int .i64 LF) ∧ W.cell? ⟨D, 4, none⟩ = some (.slice p n c)) (first | exact k4 | exact k5) (fail)
    go_wp2_with fail
    go_ret2
    rw [HR1.out, HR2.out]
    refine ⟨rfl, ?_⟩
    first | exact HBG.out | exact HBG.out.drew | exact HBE.out | exact HBF.out
  · have q1 : decide (LB > U) = false := by simpa using h1
    have q2 : decide (LF > (n : Int)) = true := by simpa using h2
    have hs2 : IntKind.i64.wrap (LF - (n : Int)) = LF - (n : Int) := by rw [IntKind.wrap_i64]; unfold InI at hif; omega
    have HR1 : Hid (leftP LB U = 0) := Lib.hid (by unfold leftP; omega)
    have HR2 : Hid (leftP LF (n : Int) = LF - (n : Int)) := Lib.hid (by unfold leftP; omega)
    clear h1 h2
    go_enter Tryz.func41, Tryz.ntmps41
    go_wp2_with fail
    go_region_held3 (fun W => W.cell? ⟨D, 0, none⟩ = some (.int .i64 LB) ∧ W.cell? ⟨D, 1, none⟩ = some (.int .i64 LF) ∧ W.cell? ⟨D, 4, none⟩ = some (.slice p n c)) (first | exact k0 | exact k1 | exact k2) (first | (go_at_call 77; refine (HT.out _ HBD.out).mono ?_; rintro e w2 ⟨rfl, hb2⟩; have HB2 := Lib.hid (below_step HBD.out hb2); have k2 := HGC.out _ HB2.out; clear hb2))
    have HBE : Hid (Below w.heap.size w w2.drew) := Lib.hid (HB2.out.drew)
    have k3 := HGC.out _ HBE.out
    go_wp2_with fail
    have HBG : Hid (Below w.heap.size w w2.drew.drew) := Lib.hid (HBE.out.drew)
    have k6 := HGC.out _ HBG.out
    go_region_held3 (fun W => W.cell? ⟨D, 0, none⟩ = some (.int .i64 LB) ∧ W.cell? ⟨D, 1, none⟩ = some (.int .i64 LF) ∧ W.cell? ⟨D, 4, none⟩ = some (.slice p n c)) (first | exact k3 | exact k2 | exact k6) (fail)
    go_wp2_with fail
    go_region_held3 (fun W => W.cell? ⟨D, 0, none⟩ = some (.int .i64 LB) ∧ W.cell? ⟨D, 1, none⟩ = some (.int .i64 LF) ∧ W.cell? ⟨D, 4, none⟩ = some (.slice p n c)) (first | exact k5 | exact k6 | exact k3 | exact k7) (fail)
    go_wp2_with fail
    go_ret2
    rw [HR1.out, HR2.out]
    refine ⟨rfl, ?_⟩
    first | exact HBG.out | exact HBG.out.drew | exact HBE.out | exact HBF.out
  · have q1 : decide (LB > U) = false := by simpa using h1
    have q2 : decide (LF > (n : Int)) = false := by simpa using h2
    have HR1 : Hid (leftP LB U = 0) := Lib.hid (by unfold leftP; omega)
    have HR2 : Hid (leftP LF (n : Int) = 0) := Lib.hid (by unfold leftP; omega)
    clear h1 h2
    go_enter Tryz.func41, Tryz.ntmps41
    go_wp2_with fail
    go_region_held3 (fun W => W.cell? ⟨D, 0, none⟩ = some (.int .i64 LB) ∧ W.cell? ⟨D, 1, none⟩ = some (.int .i64 LF) ∧ W.cell? ⟨D, 4, none⟩ = some (.slice p n c)) (first | exact k0 | exact k1 | exact k2) (first | (go_at_call 77; refine (HT.out _ HBD.out).mono ?_; rintro e w2 ⟨rfl, hb2⟩; have HB2 := Lib.hid (below_step HBD.out hb2); have k2 := HGC.out _ HB2.out; clear hb2))
    have HBE : Hid (Below w.heap.size w w2.drew) := Lib.hid (HB2.out.drew)
    have k3 := HGC.out _ HBE.out
    go_wp2_with fail
    have HBG : Hid (Below w.heap.size w w2.drew.drew) := Lib.hid (HBE.out.drew)
    have k6 := HGC.out _ HBG.out
    go_region_held3 (fun W => W.cell? ⟨D, 0, none⟩ = some (.int .i64 LB) ∧ W.cell? ⟨D, 1, none⟩ = some (.int .i64 LF) ∧ W.cell? ⟨D, 4, none⟩ = some (.slice p n c)) (first | exact k3 | exact k2 | exact k6) (fail)
    go_wp2_with fail
    go_ret2
    rw [HR1.out, HR2.out]
    refine ⟨rfl, ?_⟩
    first | exact HBG.out | exact HBG.out.drew | exact HBE.out | exact HBF.out
end Go.Proofs.YtncbgddgkpaoeaaGreat
