/- Layer 12, the law: play: a call of the reference's disk; Layer 12, the program: what Load holds while it reads files; Layer 12, the program: Load of any files; Layer 12, the reference: what Load holds while it reads files; Layer 12, the reference: Load of any files -/
import Derived.Test.YtncbgddgkpaoeaaGreatDd3
import Derived.Test.YtncbgddgkpaoeaaGreatDd29
import Derived.Test.YtncbgddgkpaoeaaGreatDd32
import Derived.Test.YtncbgddgkpaoeaaGreatDd35
import Derived.Test.YtncbgddgkpaoeaaGreatDd36
import Derived.Test.YtncbgddgkpaoeaaGreatDd37
set_option linter.unusedSimpArgs false
set_option linter.unusedVariables false
namespace Go.Proofs.YtncbgddgkpaoeaaGreat
set_option linter.unusedVariables false
open Go.RowKit Go.Lib

set_option maxRecDepth 100000 in
set_option maxHeartbeats 4000000 in
theorem rplay12_any {w : World} {D m : Nat} {d : Dk} (h : Rw w D d) (ho : d.Ok m) (hm : m ≤ 1048572) (c : Cx) (hc : c.Fit w) (he : c.e ≤ maxLen) :
    Calls Tryz.prog 10 #[.pointer (some ⟨D, 0, none⟩), c.v] w fun e w' => e = .returned (.int .i64 (stepP d c.cl).2) ∧ Rw w' D (stepP d c.cl).1 ∧ Kp D D w w' := by
  have hll := hc.len
  obtain ⟨hcb, hcp, hcl, hck, hcs, hct, hcd, hcn⟩ := hc
  obtain ⟨k, s, t, p, l, e, zs, n⟩ := c
  obtain ⟨x, q, j, g, L, hx⟩ := h
  unfold Cx.cl at hck hcs hct hcd hcn ⊢
  unfold Cx.v
  dsimp only at hcb hcp hcl hck hcs hct hcd hcn hll he ⊢
  obtain ⟨wA, hA⟩ : ∃ A, w.alloc (.cells #[.int .i64 k, .string s, .string t, .slice p l e, .int .i64 n] 34) = A := ⟨_, rfl⟩
  have HBA : Hid (Below w.heap.size w wA) := Lib.hid (by rw [← hA]; exact (Below.refl _ _).alloc (Nat.le_refl _) _)
  have hxx : Cxw wA w.heap.size ⟨k, s, t, p, l, e, zs, n⟩ := by unfold Cxw; rw [← hA]; exact heap_alloc_new _ _
  have HXX := Lib.hid hxx
  obtain ⟨c0, c1, c2, c3, c4⟩ := hxx.cells
  dsimp only at c0 c1 c2 c3 c4
  have HX := Lib.hid (hx.later HBA.out)
  have HB := Lib.hid (hcb.later HBA.out)
  have HKA : Hid (Kp D D w wA) := Lib.hid (Kp.of_below HBA.out)
  obtain ⟨R, hR⟩ : ∃ R, stepP d ⟨k, s, t, zs, n⟩ = R := ⟨_, rfl⟩
  have HR := Lib.hid hR
  rw [hR]
  by_cases h17 : 1 ≤ k ∧ k ≤ 7
  · have HP := Lib.hid (rpower12_any HX.out ho hm k h17 s t hcs hct p l e zs n HB.out hcp hcl he (by omega) hcn)
    have HE : Hid (powP d (fun d => effP d ⟨k, s, t, zs, n⟩) = R) := Lib.hid (by rw [← hR]; unfold stepP; rw [if_pos h17])
    rw [HE.out] at HP
    clear hx hxx hcb hR HR ho
    go_enter Tryz.func10, Tryz.ntmps10
    go_upto_region 9 with fail
    all_goals (go_wp2_with (go_at_call 39; refine HP.out.mono ?_; rintro e w9 ⟨rfl, hw9, hk9⟩; have HW9 := Lib.hid hw9; have HK9 := Lib.hid hk9; clear hw9 hk9))
    all_goals go_ret
    all_goals exact ⟨rfl, HW9.out, HKA.out.trans HK9.out⟩
  · have k1 : (k == 1) = false := by simp; omega
    have k2 : (k == 2) = false := by simp; omega
    have k3 : (k == 3) = false := by simp; omega
    have k4 : (k == 4) = false := by simp; omega
    have k5 : (k == 5) = false := by simp; omega
    have k6 : (k == 6) = false := by simp; omega
    have k7 : (k == 7) = false := by simp; omega
    obtain ⟨_, _, _, _, _, _, _, e7, _⟩ := HX.out.b.cells
    have f7 := HX.out.b.frozen 7
    by_cases h8 : k = 8
    · subst h8
      have HE : Hid (R = ({ d with fuse := normF n }, 0)) := Lib.hid (by rw [← hR]; unfold stepP; rw [if_neg h17, if_pos rfl])
      obtain ⟨R1, R2⟩ := R
      obtain ⟨rfl, rfl⟩ := Prod.mk.inj HE.out
      try dsimp only
      have hk1 : Kp D D wA (wA.setCell ⟨D, 7, none⟩ (.int .i64 (-1))) := Kp.of_set _ _ _ _
      have h1 := HX.out.own hk1 (HX.out.b.setFuse (-1)) rfl rfl
      have hk2 : Kp D D (wA.setCell ⟨D, 7, none⟩ (.int .i64 (-1))) ((wA.setCell ⟨D, 7, none⟩ (.int .i64 (-1))).setCell ⟨D, 7, none⟩ (.int .i64 n)) := Kp.of_set _ _ _ _
      have h2 := h1.own hk2 (h1.b.setFuse n) rfl rfl
      have HK1 := Lib.hid (HKA.out.trans hk1)
      have HK2 := Lib.hid ((HKA.out.trans hk1).trans hk2)
      have HX1 := Lib.hid h1
      have HX2 := Lib.hid h2
      have hne : (wA.setCell ⟨D, 7, none⟩ (.int .i64 (-1))).cell? ⟨w.heap.size, 4, none⟩ = some (.int .i64 n) := by
        have hb := hk1.block w.heap.size (World.block_lt_of_cell? wA _ c4) (fun e => by have := hx.b.lt; omega) (fun e => by have := hx.b.lt; omega)
        rw [World.cell?_of_block (w := wA) (a := ⟨w.heap.size, 4, none⟩) hb]
        exact c4
      obtain ⟨_, _, _, _, _, _, _, g7, _⟩ := h1.b.cells
      have i7 := h1.b.frozen 7
      dsimp only at g7
      clear hx hxx hcb hR HR HE ho hk1 h1 hk2 h2
      by_cases hn : 0 ≤ n
      · have HN : Hid (normF n = n) := Lib.hid (by unfold normF; rw [if_neg (by omega)])
        go_enter Tryz.func10, Tryz.ntmps10
        go_wp2
        go_ret
        exact ⟨rfl, by rw [HN.out]; exact ⟨_, _, _, _, _, HX2.out⟩, HK2.out⟩
      · have HN : Hid (normF n = -1) := Lib.hid (by unfold normF; rw [if_pos (by omega)])
        go_enter Tryz.func10, Tryz.ntmps10
        go_wp2
        go_ret
        exact ⟨rfl, by rw [HN.out]; exact ⟨_, _, _, _, _, HX1.out⟩, HK1.out⟩
    have k8 : (k == 8) = false := by simpa using h8
    by_cases h9 : k = 9
    · subst h9
      have HP := Lib.hid (rcrash12_any HX.out ho (by omega) p l e zs HB.out hcp hcl (by omega))
      have HE : Hid (R = (crashD d zs, 0)) := Lib.hid (by rw [← hR]; unfold stepP; rw [if_neg h17, if_neg (show ¬ (9 : Int) = 8 by decide), if_pos rfl])
      obtain ⟨R1, R2⟩ := R
      obtain ⟨rfl, rfl⟩ := Prod.mk.inj HE.out
      try dsimp only
      generalize crashD d zs = CD at *
      clear hx hxx hcb hR HR HE ho
      go_enter Tryz.func10, Tryz.ntmps10
      go_wp2_with (go_at_call 40; refine HP.out.mono ?_; rintro e w9 ⟨rfl, hw9, hk9⟩; have HW9 := Lib.hid hw9; have HK9 := Lib.hid hk9; clear hw9 hk9)
      go_ret
      exact ⟨rfl, HW9.out, HKA.out.trans HK9.out⟩
    · have k9 : (k == 9) = false := by simpa using h9
      have HE : Hid (R = (d, 0)) := Lib.hid (by rw [← hR]; unfold stepP; rw [if_neg h17, if_neg h8, if_neg h9])
      obtain ⟨R1, R2⟩ := R
      obtain ⟨rfl, rfl⟩ := Prod.mk.inj HE.out
      try dsimp only
      clear hx hxx hcb hR HR HE ho
      go_enter Tryz.func10, Tryz.ntmps10
      go_wp2
      go_ret
      exact ⟨rfl, ⟨_, _, _, _, _, HX.out⟩, HKA.out⟩
end Go.Proofs.YtncbgddgkpaoeaaGreat

namespace Go.Proofs.YtncbgddgkpaoeaaGreat
set_option linter.unusedVariables false
open Go.RowKit Go.Lib Go.Maps

/-- blocks of this type stand as they were -/
def Tk (e : TypeId) (w w' : World) : Prop := ∀ (g : Nat) (cs : Array Value), w.heap[g]? = some (.cells cs e (0, 0)) → w'.heap[g]? = some (.cells cs e (0, 0))
theorem Tk.trans {e : TypeId} {a b c : World} (h : Tk e a b) (k : Tk e b c) : Tk e a c := fun g cs hg => k g cs (h g cs hg)
theorem Tk.below {e : TypeId} {w w' : World} (h : Below w.heap.size w w') : Tk e w w' := fun g cs hg => by rw [h.block g (Array.getElem?_eq_some_iff.1 hg).1]; exact hg
theorem Tk.set {e t : TypeId} {w : World} {D j : Nat} {cs : Array Value} {v : Value} (hD : w.heap[D]? = some (.cells cs t (0, 0))) (hne : t ≠ e) : Tk e w (w.setCell ⟨D, j, none⟩ v) := fun g cs' hg => by
  by_cases h : g = D
  · subst h
    rw [hD] at hg
    simp only [Option.some.injEq, Obj.cells.injEq] at hg
    exact absurd hg.2.1 hne
  · rw [heap_setCell_other _ ⟨D, j, none⟩ g v h]; exact hg
theorem Tk.map {e : TypeId} {w w' : World} {M n : Nat} {g : Int → Option Ni} (h : Mi w M n g) (hg : w.grownBy w' (some M)) : Tk e w w' := fun b cs hb => by
  rw [hg.block b (Array.getElem?_eq_some_iff.1 hb).1 (fun h' => ?_)]
  · exact hb
  · obtain rfl : b = M := by simpa using h'
    obtain ⟨_, Dd, ⟨es, clock, hm, _⟩, _⟩ := h
    rw [hm] at hb
    cases hb
theorem Tk.row {α : Type} {E : Ec α} {e : TypeId} (hne : E.t ≠ e) {w w' : World} {B : Nat} {v : Value} {L : List α} (ho : Gw E w B v L) (hg : w.grownBy w' v.ownBlock) : Tk e w w' := fun b cs hb => grownG_other ho hg hb (fun h => hne h.symm)
theorem Ob.tk {w w' : World} {B : Nat} {e : TypeId} {v : Value} {zs : List Int} (h : Ob w B e v zs) (hk : Tk e w w') : Ob w' B e v zs := by
  obtain ⟨hb, hl, h2⟩ := h
  refine ⟨hb, hl, ?_⟩
  rcases h2 with h2 | ⟨g, cap, cur, hv, hB, hg, r⟩
  · exact Or.inl h2
  · exact Or.inr ⟨g, cap, cur, hv, hB, hk g cur hg, r⟩
theorem Gw.tk {α : Type} {E : Ec α} {w w' : World} {B : Nat} {v : Value} {L : List α} (h : Gw E w B v L) (hk : Tk E.t w w') : Gw E w' B v L := by
  obtain ⟨hl, h2⟩ := h
  refine ⟨hl, ?_⟩
  rcases h2 with h2 | ⟨g, cap, cur, hv, hB, hg, r⟩
  · exact Or.inl h2
  · exact Or.inr ⟨g, cap, cur, hv, hB, hk g cur hg, r⟩
theorem Kb.tk {w w' : World} {B : Nat} {y : Kr} (h : Kb w B y) (hk : Tk 5 w w') : Kb w' B y := ⟨h.1.tk hk, h.2⟩

/-- the program's disk while files are read: A was taken, la is the number that was given last -/
def ldc (lb lf la : Int) (A : List (ByteArray × List Int)) : Dk := ⟨lb, lf, ⟨[], []⟩, fkA 0 A, la, -1, false, 0⟩
structure Lc (w : World) (B D M G : Nat) (lb lf la : Int) (A : List (ByteArray × List Int)) (g : Int → Option Ni) (q : Option Addr) (cc : Nat) : Prop where
  b : w.heap[D]? = some (.cells (dcells (ldc lb lf la A) fo0 M (-1)) 66 (0, 0))
  m : Mi w M A.length g
  n : ∀ i y, g i = some y → Kb w B ⟨i, y⟩
  k : ∀ i, (g i).map Ni.fi = getK (fkA 0 A) i
  f : w.heap[G]? = some (.cells #[.slice q A.length cc, .slice none 0 0] 64 (0, 0))
  r : Gw encN w B (.slice q A.length cc) (nmA 0 A)
section
variable {w w' : World} {B D M G : Nat} {lb lf la : Int} {A : List (ByteArray × List Int)} {g : Int → Option Ni} {q : Option Addr} {cc : Nat}
theorem disk_ne8 : 66 ≠ 5 := by decide
theorem disk_neN : 66 ≠ encN.t := by decide
theorem fold_ne8 : 64 ≠ 5 := by decide
theorem fold_neN : 64 ≠ encN.t := by decide
theorem fold_neD : 64 ≠ 66 := by decide
theorem name_ne8 : encN.t ≠ 5 := by decide
theorem Lc.lt (h : Lc w B D M G lb lf la A g q cc) : D < w.heap.size ∧ M < w.heap.size ∧ G < w.heap.size := ⟨(Array.getElem?_eq_some_iff.1 h.b).1, h.m.lt, (Array.getElem?_eq_some_iff.1 h.f).1⟩
theorem Lc.ne (h : Lc w B D M G lb lf la A g q cc) : D ≠ M ∧ G ≠ M ∧ G ≠ D := by
  refine ⟨fun e => ?_, fun e => ?_, fun e => ?_⟩
  · subst e
    have h0 : w.cell? ⟨D, 0, none⟩ = some (.int .i64 lb) := by rw [cell_of_row _ _ _ _ _ _ h.b]; rfl
    exact h.m.no 0 _ h0
  · subst e
    have h0 : w.cell? ⟨G, 1, none⟩ = some (.slice none 0 0) := by rw [cell_of_row _ _ _ _ _ _ h.f]; rfl
    exact h.m.no 1 _ h0
  · subst e
    have := h.b.symm.trans h.f
    simp only [Option.some.injEq, Obj.cells.injEq] at this
    exact fold_neD this.2.1.symm
theorem Lc.later (h : Lc w B D M G lb lf la A g q cc) (hb : Below w.heap.size w w') : Lc w' B D M G lb lf la A g q cc :=
  { b := by rw [hb.block D h.lt.1]; exact h.b, m := h.m.later hb, n := fun i y hy => (h.n i y hy).later hb, k := h.k, f := by rw [hb.block G h.lt.2.2]; exact h.f, r := h.r.later hb }
theorem Lc.cells (h : Lc w B D M G lb lf la A g q cc) : w.cell? ⟨D, 4, none⟩ = some (.map (some M)) ∧ w.cell? ⟨D, 5, none⟩ = some (.int .i64 la) ∧ w.frozen? ⟨D, 5, none⟩ = false ∧ w.cell? ⟨G, 0, none⟩ = some (.slice q A.length cc) ∧ w.cell? ⟨G, 1, none⟩ = some (.slice none 0 0) ∧ w.frozen? ⟨G, 0, none⟩ = false :=
  ⟨by rw [cell_of_row _ _ _ _ _ _ h.b]; rfl, by rw [cell_of_row _ _ _ _ _ _ h.b]; rfl, frozen_of_row _ _ _ _ _ h.b, by rw [cell_of_row _ _ _ _ _ _ h.f]; rfl, by rw [cell_of_row _ _ _ _ _ _ h.f]; rfl, frozen_of_row _ _ _ _ _ h.f⟩
theorem Lc.last (h : Lc w B D M G lb lf la A g q cc) (v : Int) : Lc (w.setCell ⟨D, 5, none⟩ (.int .i64 v)) B D M G lb lf v A g q cc := by
  have hk8 := Tk.set (e := 5) (j := 5) (v := .int .i64 v) h.b disk_ne8
  have hkN := Tk.set (e := encN.t) (j := 5) (v := .int .i64 v) h.b disk_neN
  obtain ⟨h1, h2, h3⟩ := h.ne
  refine { b := ?_, m := h.m.same (heap_setCell_other _ ⟨D, 5, none⟩ M _ (fun e => h1 e.symm)), n := fun i y hy => (h.n i y hy).tk hk8, k := h.k, f := ?_, r := h.r.tk hkN }
  · rw [heap_setCell_same _ D 5 _ _ _ h.b]; rfl
  · rw [heap_setCell_other _ ⟨D, 5, none⟩ G _ h3]; exact h.f
/-- a file more: it is kept, its name is not yet in the folder -/
structure Lm (w : World) (B D M G : Nat) (lb lf : Int) (A : List (ByteArray × List Int)) (f : ByteArray × List Int) (g : Int → Option Ni) (q : Option Addr) (cc : Nat) : Prop where
  b : w.heap[D]? = some (.cells (dcells (ldc lb lf ((A.length : Int) + 1) (A ++ [f])) fo0 M (-1)) 66 (0, 0))
  m : Mi w M (A ++ [f]).length g
  n : ∀ i y, g i = some y → Kb w B ⟨i, y⟩
  k : ∀ i, (g i).map Ni.fi = getK (fkA 0 (A ++ [f])) i
  f : w.heap[G]? = some (.cells #[.slice q A.length cc, .slice none 0 0] 64 (0, 0))
  r : Gw encN w B (.slice q A.length cc) (nmA 0 A)
theorem Lc.put (h : Lc w B D M G lb lf ((A.length : Int) + 1) A g q cc) (f : ByteArray × List Int) {y : Ni} (hy : Kb w B ⟨(A.length : Int) + 1, y⟩) (hz : y.zs = f.2)
    (hm : Mi w' M (A.length + 1) (fun j => if j = (A.length : Int) + 1 then some y else g j)) (hg : w.grownBy w' (some M)) :
    Lm w' B D M G lb lf A f (fun j => if j = (A.length : Int) + 1 then some y else g j) q cc := by
  obtain ⟨h1, h2, h3⟩ := h.ne
  obtain ⟨l1, l2, l3⟩ := h.lt
  refine { b := ?_, m := by rw [List.length_append]; exact hm, n := fun i z hz' => ?_, k := fun i => ?_, f := ?_, r := h.r.tk (Tk.map h.m hg) }
  · rw [hg.block D l1 (fun e => h1 (by simpa using e))]; exact h.b
  · split at hz'
    · rename_i e
      obtain rfl := Option.some.inj hz'
      subst e
      exact hy.tk (Tk.map h.m hg)
    · exact (h.n i z hz').tk (Tk.map h.m hg)
  · have hs := fkA_snoc f A 0
    rw [Nat.zero_add] at hs
    rw [hs, getK_append]
    by_cases e : i = (A.length : Int) + 1
    · have hn : getK (fkA 0 A) i = none := getK_none (by
        rw [fkA_ids]
        intro hm
        obtain ⟨x, hx, e'⟩ := List.mem_map.1 hm
        obtain ⟨_, _, _, _, h3⟩ := nmA_mem A 0 x hx
        rw [Nat.zero_add] at h3
        omega)
      rw [if_pos e, hn, Option.none_or, getK, if_pos e.symm]
      show some y.fi = _
      congr 1
      obtain ⟨_, _, _, _, hL⟩ := hy
      unfold Ni.fi
      dsimp only at hL
      rw [hL, hz]; rfl
    · rw [if_neg e, h.k i, getK, if_neg (fun e' => e e'.symm)]
      show _ = (getK (fkA 0 A) i).or none
      rw [Option.or_none]
  · rw [hg.block G l3 (fun e => h2 (by simpa using e))]; exact h.f
section
variable {w w' : World} {B D M G : Nat} {lb lf : Int} {A : List (ByteArray × List Int)} {f : ByteArray × List Int} {g : Int → Option Ni} {q : Option Addr} {cc : Nat}
theorem Lm.lt (h : Lm w B D M G lb lf A f g q cc) : D < w.heap.size ∧ M < w.heap.size ∧ G < w.heap.size := ⟨(Array.getElem?_eq_some_iff.1 h.b).1, h.m.lt, (Array.getElem?_eq_some_iff.1 h.f).1⟩
theorem Lm.ne (h : Lm w B D M G lb lf A f g q cc) : G ≠ M ∧ G ≠ D := by
  refine ⟨fun e => ?_, fun e => ?_⟩
  · subst e
    have h0 : w.cell? ⟨G, 1, none⟩ = some (.slice none 0 0) := by rw [cell_of_row _ _ _ _ _ _ h.f]; rfl
    exact h.m.no 1 _ h0
  · subst e
    have := h.b.symm.trans h.f
    simp only [Option.some.injEq, Obj.cells.injEq] at this
    exact fold_neD this.2.1.symm
theorem Lm.later (h : Lm w B D M G lb lf A f g q cc) (hb : Below w.heap.size w w') : Lm w' B D M G lb lf A f g q cc :=
  { b := by rw [hb.block D h.lt.1]; exact h.b, m := h.m.later hb, n := fun i y hy => (h.n i y hy).later hb, k := h.k, f := by rw [hb.block G h.lt.2.2]; exact h.f, r := h.r.later hb }
theorem Lm.cells (h : Lm w B D M G lb lf A f g q cc) : w.cell? ⟨D, 5, none⟩ = some (.int .i64 ((A.length : Int) + 1)) ∧ w.cell? ⟨G, 0, none⟩ = some (.slice q A.length cc) ∧ w.frozen? ⟨G, 0, none⟩ = false :=
  ⟨by rw [cell_of_row _ _ _ _ _ _ h.b]; rfl, by rw [cell_of_row _ _ _ _ _ _ h.f]; rfl, frozen_of_row _ _ _ _ _ h.f⟩
/-- behind append the folder's own cells stand -/
theorem Lm.folder (h : Lm w B D M G lb lf A f g q cc) (hg : w.grownBy w' (Value.slice q A.length cc).ownBlock) : w'.heap[G]? = some (.cells #[.slice q A.length cc, .slice none 0 0] 64 (0, 0)) :=
  Tk.row (fun e => fold_neN e.symm) h.r hg _ _ h.f
/-- its name is in the folder -/
theorem Lm.grow (h : Lm w B D M G lb lf A f g q cc) {q' : Option Addr} {c' : Nat} (hg : w.grownBy w' (Value.slice q A.length cc).ownBlock) (ho : Gw encN w' B (.slice q' (A.length + 1) c') (nmA 0 A ++ [⟨f.1, (A.length : Int) + 1⟩])) :
    Lc (w'.setCell ⟨G, 0, none⟩ (.slice q' (A.length + 1) c')) B D M G lb lf ((A ++ [f]).length : Int) (A ++ [f]) g q' c' := by
  obtain ⟨n1, n2⟩ := h.ne
  have hf := h.folder hg
  have hD := Tk.row (e := 66) (fun e => disk_neN e.symm) h.r hg _ _ h.b
  have hk8 := (Tk.row (e := 5) name_ne8 h.r hg).trans (Tk.set (j := 0) (v := .slice q' (A.length + 1) c') hf fold_ne8)
  have hM : w'.heap[M]? = w.heap[M]? := hg.block M h.m.lt (fun e => by
    rcases h.r.2 with ⟨e0, _⟩ | ⟨b, cap, cur, e0, _, hb, _⟩
    · rw [e0] at e; cases e
    · rw [e0] at e
      obtain rfl : M = b := by simpa [Value.ownBlock] using e
      have h0 := h.m.2
      obtain ⟨_, ⟨es, clock, hm, _⟩, _⟩ := h0
      rw [hm] at hb
      cases hb)
  have hl : ((A ++ [f]).length : Int) = (A.length : Int) + 1 := by rw [List.length_append]; rfl
  refine { b := ?_, m := (h.m.same hM).same (heap_setCell_other _ ⟨G, 0, none⟩ M _ (fun e => n1 e.symm)), n := fun i y hy => (h.n i y hy).tk hk8, k := h.k, f := ?_, r := ?_ }
  · rw [heap_setCell_other _ ⟨G, 0, none⟩ D _ (fun e => n2 e.symm), hl]; exact hD
  · rw [heap_setCell_same _ G 0 _ _ _ hf, List.length_append]; rfl
  · rw [List.length_append]
    have := ho.tk (Tk.set (e := encN.t) (j := 0) (v := .slice q' (A.length + 1) c') hf fold_neN)
    have hs := nmA_snoc f A 0
    rw [Nat.zero_add] at hs
    rw [hs]
    exact this
end
end
end Go.Proofs.YtncbgddgkpaoeaaGreat

namespace Go.Proofs.YtncbgddgkpaoeaaGreat
set_option linter.unusedVariables false
open Go.RowKit Go.Lib Go.Maps

theorem Lc.dx {w : World} {B D M G : Nat} {lb lf : Int} {A : List (ByteArray × List Int)} {g : Int → Option Ni} {q : Option Addr} {cc : Nat} (h : Lc w B D M G lb lf (A.length : Int) A g q cc) : Dx w D M (ldc lb lf (A.length : Int) A) fo0 (-1) g :=
  ⟨h.b, fo0_fit _, rfl, by show Mi w M (fkA 0 A).length g; rw [fkA_length]; exact h.m, fun i y hy => (h.n i y hy).fit, h.k, rfl, by unfold InI; omega⟩

theorem keep9 {w : World} {D M G : Nat} {lb lf la : Int} {A : List (ByteArray × List Int)} {ys : ByteArray} {yp : Option Addr} {yn yc : Nat} (h : w.heap[D]? = some (.cells (dcells (ldc lb lf la A) fo0 M (-1)) 66 (0, 0))) (hr : w.heap[G]? = some (.cells #[.string ys, .slice yp yn yc] 68 (0, 0))) :
    w.cell? ⟨D, 4, none⟩ = some (.map (some M)) ∧ w.cell? ⟨D, 5, none⟩ = some (.int .i64 la) ∧ w.cell? ⟨G, 0, none⟩ = some (.string ys) ∧ w.cell? ⟨G, 1, none⟩ = some (.slice yp yn yc) :=
  ⟨by rw [cell_of_row _ _ _ _ _ _ h]; rfl, by rw [cell_of_row _ _ _ _ _ _ h]; rfl, (row2k hr).1, (row2k hr).2⟩

set_option maxRecDepth 100000 in
set_option maxHeartbeats 4000000 in
theorem dload_any (lb lf : Int) (hb : InI lb) (hf : InI lf) (fp : Option Addr) (fn fc : Nat) (L : List Fx) (w : World) (hL : Gs encF w fp fn L) (hY : ∀ c ∈ L, fxI w c ∧ fxSz c ≤ 1048576) (hn : fn ≤ 1048572) :
    Calls Tryz.prog 7 #[.agg #[.int .i64 lb, .int .i64 lf], .slice fp fn fc] w fun e w' => ∃ D M, e = .returned (.pointer (some ⟨D, 0, none⟩)) ∧ Dw w' D M (loadC lb lf (L.map Fx.pr)) ∧ w.heap.size ≤ D ∧ w.heap.size ≤ M ∧ Below w.heap.size w w' := by
  have hmm := @run_makeMap Tryz.prog
  obtain ⟨fs, hfs⟩ : ∃ fs, L.map Fx.pr = fs := ⟨_, rfl⟩
  have hll := hL.1
  have HFN : Hid (fs.length = fn) := Lib.hid (by rw [← hfs, List.length_map, hll])
  have HCO := Lib.hid (loadC_ok (m := fn) hb hf (Nat.le_of_eq HFN.out) (by omega))
  rw [hfs]
  obtain ⟨wL, hwL⟩ : ∃ A, w.alloc (.cells #[.int .i64 lb, .int .i64 lf] 23) = A := ⟨_, rfl⟩
  obtain ⟨wM, hM⟩ : ∃ A, wL.alloc (.map #[] 0) = A := ⟨_, rfl⟩
  obtain ⟨M, hMs⟩ : ∃ G, wL.heap.size = G := ⟨_, rfl⟩
  obtain ⟨wD, hD⟩ : ∃ A, wM.alloc (.cells #[.int .i64 lb, .int .i64 lf, .slice none 0 0, .slice none 0 0, .map (some M), .int .i64 0, .int .i64 (-1), .bool false, .int .i64 0] 66) = A := ⟨_, rfl⟩
  obtain ⟨D, hDs⟩ : ∃ G, wM.heap.size = G := ⟨_, rfl⟩
  obtain ⟨wA, hA⟩ : ∃ A, wD.alloc (.cells #[.slice none 0 0, .slice none 0 0] 64) = A := ⟨_, rfl⟩
  obtain ⟨G, hG⟩ : ∃ G, wD.heap.size = G := ⟨_, rfl⟩
  have hBL : Below w.heap.size w wL := by rw [← hwL]; exact (Below.refl _ _).alloc (Nat.le_refl _) _
  have hBM : Below wL.heap.size wL wM := by rw [← hM]; exact (Below.refl _ _).alloc (Nat.le_refl _) _
  have hBD : Below wM.heap.size wM wD := by rw [← hD]; exact (Below.refl _ _).alloc (Nat.le_refl _) _
  have hBA : Below wD.heap.size wD wA := by rw [← hA]; exact (Below.refl _ _).alloc (Nat.le_refl _) _
  have HBA : Hid (Below w.heap.size w wA) := Lib.hid (below_step (below_step (below_step hBL hBM) hBD) hBA)
  have l0 : wL.cell? ⟨w.heap.size, 0, none⟩ = some (.int .i64 lb) := by rw [← hwL, cell_of_row _ _ _ _ _ _ (heap_alloc_new _ _)]; rfl
  have l1 : wL.cell? ⟨w.heap.size, 1, none⟩ = some (.int .i64 lf) := by rw [← hwL, cell_of_row _ _ _ _ _ _ (heap_alloc_new _ _)]; rfl
  have HM0 : Hid (Mi wM M 0 (fun _ => none)) := Lib.hid (by rw [← hM, ← hMs]; exact Mi.made _)
  have HLC : Hid (Lc wA w.heap.size D M G lb lf 0 [] (fun _ => none) none 0) := Lib.hid
    { b := by rw [hBA.block D (by have h1 := hBD.size; rw [← hDs, ← hD]; simp), ← hD, ← hDs]; exact heap_alloc_new _ _
      m := (HM0.out.later hBD).later hBA
      n := fun i y hy => by cases hy
      k := fun i => rfl
      f := by rw [← hA, ← hG]; exact heap_alloc_new _ _
      r := Gw.nil _ _ _ }
  have HDM : Hid (w.heap.size ≤ D ∧ w.heap.size ≤ M ∧ w.heap.size ≤ G) := Lib.hid (by have h1 := hBL.size; have h2 := hBM.size; have h3 := hBD.size; omega)
  have HLS := Lib.hid hL
  have HYS := Lib.hid hY
  have HAL := Lib.hid (ldA_length fs)
  clear hBL hBM hBD hBA hL hY
  go_enter Tryz.func7, Tryz.ntmps7
  go_wp2
  clear hwL hM hMs hD hDs hA hG l0 l1 hmm
  go_loopw [15] (fun i wr => ∃ (j : Nat) (g : Int → Option Ni) (q : Option Addr) (cc : Nat), j ≤ fn ∧ i = .int .i64 (j : Int) ∧ Hid (Lc wr w.heap.size D M G lb lf ((ldA (fs.take j)).length : Int) (ldA (fs.take j)) g q cc) ∧ Hid (Below w.heap.size w wr)) (fun i _ => fn - (intOf i).toNat)
  case atStart => exact ⟨0, _, _, _, Nat.zero_le _, rfl, HLC, HBA⟩
  case round =>
    obtain ⟨j, g, q, cc, hj, rfl, HC, HB⟩ := hrel
    by_cases hlt : j < fn
    · have hkn : (j : Int) < (fn : Int) := by omega
      have hk0 : (0 : Int) ≤ (j : Int) := by omega
      obtain ⟨b, off, hpp, k0, k1⟩ := (HLS.out.later HB.out).fx j hlt
      subst hpp
      have hmem : L.getD j fx0 ∈ L := by
        rw [List.getD_eq_getElem?_getD, List.getElem?_eq_getElem (by omega)]
        exact List.getElem_mem (by omega)
      obtain ⟨⟨hyb, hyp, hyn⟩, hys⟩ := HYS.out _ hmem
      have HYB := Lib.hid hyb
      have htk : fs.take (j + 1) = fs.take j ++ [(L.getD j fx0).pr] := by
        rw [List.take_succ_eq_append_getElem (by rw [HFN.out]; exact hlt)]
        congr 1
        rw [List.getD_eq_getElem?_getD, List.getElem?_eq_getElem (by omega)]
        simp [← hfs]
      have hld := ldA_snoc (fs.take j) (L.getD j fx0).pr
      rw [← htk] at hld
      have HLD := Lib.hid hld
      have HAJ : Hid ((ldA (fs.take j)).length ≤ fn) := Lib.hid (by
        have h1 := ldA_length (fs.take j)
        have h2 := List.length_take_le j fs
        have h3 := HFN.out
        rw [List.length_take] at h1
        omega)
      clear hmem htk hld
      generalize L.getD j fx0 = y at *
      obtain ⟨ys, yp, yn, yc, yz⟩ := y
      unfold Fx.pr at HLD
      unfold fxSz at hys
      dsimp only at k0 k1 HYB hyp hyn hys HLD
      generalize hAj : ldA (fs.take j) = A at *
      have hzl : yz.length = yn := HYB.out.len
      have hss : ys.size ≤ 140737488355328 := by omega
      have hyn2 : yn ≤ 2097152 := by omega
      obtain ⟨wV, hV⟩ : ∃ W, wr.alloc (.cells #[.string ys, .slice yp yn yc] 68) = W := ⟨_, rfl⟩
      have hBV : Below wr.heap.size wr wV := by rw [← hV]; exact (Below.refl _ _).alloc (Nat.le_refl _) _
      have HRV : Hid (wV.heap[wr.heap.size]? = some (.cells #[.string ys, .slice yp yn yc] 68 (0, 0))) := Lib.hid (by rw [← hV]; exact heap_alloc_new _ _)
      obtain ⟨v0', v1'⟩ := row2k HRV.out
      have HCV := Lib.hid (HC.out.later hBV)
      have HBV := Lib.hid (below_step HB.out hBV)
      have HDK := Lib.hid fun W => disk_any ys W hss
      obtain ⟨dk, hdk⟩ : ∃ b, diskP (numsOf ys) = b := ⟨_, rfl⟩
      rw [hdk] at HDK
      by_cases hacc : accP (ys, yz) = true
      · have hld : ldA (fs.take (j + 1)) = A ++ [(ys, yz)] := by rw [HLD.out, if_pos hacc]
        have hac := hacc
        unfold accP at hac
        rw [Bool.and_eq_true, decide_eq_true_iff] at hac
        have hdt : dk = true := by rw [← hdk]; exact hac.1
        have hle : (yn : Int) ≤ 1048576 := by have := hac.2; dsimp only at this; omega
        subst hdt
        have HK1 : Hid (InI ((A.length : Int) + 1)) := Lib.hid (by have := HAJ.out; unfold InI; omega)
        have hw1 : IntKind.i64.wrap ((A.length : Int) + 1) = (A.length : Int) + 1 := by have := HAJ.out; rw [IntKind.wrap_i64]; omega
        have HLE : Hid (ldA (fs.take (j + 1)) = A ++ [(ys, yz)]) := Lib.hid hld
        clear HLD hld hacc hac hdk hAj HC
        go_wp2_with (go_at_call 27; refine (HDK.out _).mono ?_; rintro e w6 ⟨rfl, hb6⟩; have HC6 := Lib.hid (HCV.out.later hb6); have HB6 := Lib.hid (below_step HBV.out hb6); have HR6 : Hid (w6.heap[wr.heap.size]? = some (.cells #[.string ys, .slice yp yn yc] 68 (0, 0))) := Lib.hid (by rw [hb6.block _ (Array.getElem?_eq_some_iff.1 HRV.out).1]; exact HRV.out); obtain ⟨x0, x1⟩ := row2k HR6.out; obtain ⟨d4, d5, f5, g0, g1, e0⟩ := HC6.out.cells; clear hb6)
        have HC7 : Hid (Lc (w6.setCell ⟨D, 5, none⟩ (.int .i64 ((A.length : Int) + 1))) w.heap.size D M G lb lf ((A.length : Int) + 1) A g q cc) := Lib.hid (HC6.out.last ((A.length : Int) + 1))
        have HR7 : Hid ((w6.setCell ⟨D, 5, none⟩ (.int .i64 ((A.length : Int) + 1))).heap[wr.heap.size]? = some (.cells #[.string ys, .slice yp yn yc] 68 (0, 0))) := Lib.hid (Tk.set HC6.out.b (by decide) _ _ HR6.out)
        have HB7 : Hid (Below w.heap.size w (w6.setCell ⟨D, 5, none⟩ (.int .i64 ((A.length : Int) + 1)))) := Lib.hid (HB6.out.setCell (p := ⟨D, 5, none⟩) HDM.out.1 _)
        generalize w6.setCell ⟨D, 5, none⟩ (.int .i64 ((A.length : Int) + 1)) = w7 at *
        clear d4 d5 f5 g0 g1 e0 x0 x1 HC6 HB6 HR6 HCV HBV HRV HDK v0' v1' k0 k1 hBV hV
        have HKS : Hid (∀ W, Below w7.heap.size w7 W → W.cell? ⟨D, 4, none⟩ = some (.map (some M)) ∧ W.cell? ⟨D, 5, none⟩ = some (.int .i64 ((A.length : Int) + 1)) ∧ W.cell? ⟨wr.heap.size, 0, none⟩ = some (.string ys) ∧ W.cell? ⟨wr.heap.size, 1, none⟩ = some (.slice yp yn yc)) := Lib.hid fun W hW => by
          obtain ⟨h4, h5, _⟩ := (HC7.out.later hW).cells
          obtain ⟨h0, h1⟩ := row2k (w := W) (g := wr.heap.size) (by rw [hW.block _ (Array.getElem?_eq_some_iff.1 HR7.out).1]; exact HR7.out)
          exact ⟨h4, h5, h0, h1⟩
        have HDR : Hid (Below w7.heap.size w7 w7.drew) := Lib.hid (Below.refl _ _).drew
        have j0 := Lib.hid (HKS.out _ (Below.refl _ _))
        have j1 := Lib.hid (HKS.out _ HDR.out)
        have HBD := Lib.hid (below_step HB7.out HDR.out)
        have HYD := Lib.hid (HYB.out.later HBD.out)
        have HAB : Hid (A.length ≤ 4194304) := Lib.hid (by have := HAJ.out; omega)
        go_region_held3 (fun W => W.cell? ⟨D, 4, none⟩ = some (.map (some M)) ∧ W.cell? ⟨D, 5, none⟩ = some (.int .i64 ((A.length : Int) + 1)) ∧ W.cell? ⟨wr.heap.size, 0, none⟩ = some (.string ys) ∧ W.cell? ⟨wr.heap.size, 1, none⟩ = some (.slice yp yn yc)) (first | with_reducible exact j0.out | with_reducible exact j1.out | with_reducible exact j2.out | with_reducible exact j3.out | with_reducible exact j0.out) (first
          | (go_at_call 28; refine (wclone_any yp yn yc yz _ HYD.out hyp hyn2).mono ?_; rintro e8 w8 ⟨v8, rfl, ho8, hb8⟩; obtain ⟨p8, c8, hv8, _, _, _, _⟩ := ho8.open; rw [hzl] at hv8; subst hv8; have HO8 := Lib.hid ho8; have HD8 := Lib.hid (below_step HDR.out hb8); have HB8 := Lib.hid (below_step HB7.out (below_step HDR.out hb8)); have HC8 := Lib.hid (HC7.out.later (below_step HDR.out hb8)); have j2 := Lib.hid (HKS.out _ (below_step HDR.out hb8)); have HKB : Hid (Kb w8 w.heap.size ⟨(A.length : Int) + 1, ⟨p8, yn, c8, none, 0, 0, yz, []⟩⟩) := Lib.hid ⟨HO8.out.mono HBD.out.size, rfl, rfl, rfl, rfl⟩; obtain ⟨w9, hrun, hm9, hg9⟩ := put_run HC8.out.m HAB.out ((A.length : Int) + 1) HK1.out ⟨p8, yn, c8, none, 0, 0, yz, []⟩; unfold Ni.v at hrun; dsimp only at hrun; have HP9 := Lib.hid (HC8.out.put (ys, yz) HKB.out rfl hm9 hg9); have HR9 : Hid (w9.heap[wr.heap.size]? = some (.cells #[.string ys, .slice yp yn yc] 68 (0, 0))) := Lib.hid (Tk.map HC8.out.m hg9 _ _ (by rw [HD8.out.block _ (Array.getElem?_eq_some_iff.1 HR7.out).1]; exact HR7.out)); have HB9 : Hid (Below w.heap.size w w9) := Lib.hid (HB8.out.grown hg9 HB8.out.size (fun k hk => by simp at hk; have := HDM.out.2.1; omega)); have j3 := Lib.hid (keep9 HP9.out.b HR9.out); clear ho8 hb8 hm9 hg9))
        clear j0 j1 j2 j3 HKS HDR HBD HYD HC7 HR7 HB7 HO8 HD8 HB8 HC8 HKB HYB
        clear hrun
        generalize (fun k => if k = (A.length : Int) + 1 then some (⟨p8, yn, c8, none, 0, 0, yz, []⟩ : Ni) else g k) = g9 at *
        have HD9 : Hid (Below w9.heap.size w9 w9.drew) := Lib.hid (Below.refl _ _).drew
        have HBD9 := Lib.hid (below_step HB9.out HD9.out)
        have HFK : Hid (∀ W, Below w9.heap.size w9 W → W.cell? ⟨G, 0, none⟩ = some (.slice q A.length cc) ∧ W.cell? ⟨wr.heap.size, 0, none⟩ = some (.string ys) ∧ W.cell? ⟨D, 5, none⟩ = some (.int .i64 ((A.length : Int) + 1)) ∧ W.frozen? ⟨G, 0, none⟩ = false) := Lib.hid fun W hW => by
          obtain ⟨h5, h6, h7⟩ := (HP9.out.later hW).cells
          obtain ⟨h0, h1⟩ := row2k (w := W) (g := wr.heap.size) (by rw [hW.block _ (Array.getElem?_eq_some_iff.1 HR9.out).1]; exact HR9.out)
          exact ⟨h6, h0, h5, h7⟩
        obtain ⟨wC, hwC⟩ : ∃ W, w9.drew.alloc (.cells #[.string ys, .int .i64 ((A.length : Int) + 1)] 75) = W := ⟨_, rfl⟩
        obtain ⟨GC, hGC⟩ : ∃ G, w9.drew.heap.size = G := ⟨_, rfl⟩
        have HBC : Hid (Below w9.drew.heap.size w9.drew wC) := Lib.hid (by rw [← hwC]; exact (Below.refl _ _).alloc (Nat.le_refl _) _)
        have HN9 : Hid (Gs encN wC (some ⟨GC, 0, none⟩) 1 [⟨ys, (A.length : Int) + 1⟩]) := Lib.hid (by rw [← hwC, ← hGC]; exact Gs.one encN _ ⟨ys, (A.length : Int) + 1⟩ _ rfl _ _)
        have HDC := Lib.hid (below_step HD9.out HBC.out)
        have HPC := Lib.hid (HP9.out.later HDC.out)
        have HBXC := Lib.hid (below_step HB9.out HDC.out)
        have HNL : Hid ((nmA 0 A).length ≤ 2097151) := Lib.hid (by rw [nmA_length]; have := HAJ.out; omega)
        have k0 := HFK.out _ (Below.refl _ _)
        have k1 := HFK.out _ HD9.out
        have k2 := HFK.out _ HDC.out
        obtain ⟨a0, a1, a2, a3⟩ := k0
        obtain ⟨b0, b1, b2, b3⟩ := k1
        obtain ⟨c0, c1, c2, c3⟩ := k2
        go_wp2_with fail
        go_region_law (first
          | (refine step_append_gen encN rfl (.tmp 49) (.tmp 57) 61 rfl Tryz.underlying61 nzero 24 infoN rfl (by decide) w.heap.size (.slice q A.length cc) (nmA 0 A) rfl HPC.out.r _ 1 1 [⟨ys, (A.length : Int) + 1⟩] rfl HN9.out (fun h => by cases h) (by have := HNL.out; omega) HBXC.out.size ?_; intro v6 w6 ho6 hg6; obtain ⟨q6, c6, hv6, hlc6, _, _, _⟩ := ho6.open; rw [List.length_append, nmA_length] at hv6; subst hv6; have HL6 := Lib.hid (HPC.out.grow hg6 ho6); have HB6 := Lib.hid ((below_new_gw HBXC.out HPC.out.r hg6 HBXC.out.size).setCell (p := ⟨G, 0, none⟩) HDM.out.2.2 (.slice q6 (A.length + 1) c6)); have e0 : w6.frozen? ⟨G, 0, none⟩ = false := frozen_of_row _ _ _ _ _ (HPC.out.folder hg6); have e1 : w6.cell? ⟨G, 0, none⟩ = some (.slice q A.length cc) := (by rw [cell_of_row _ _ _ _ _ _ (HPC.out.folder hg6)]; rfl); clear ho6 hg6 hlc6))
        all_goals (
          clear a0 a1 a2 a3 b0 b1 b2 b3 c0 c1 c2 c3 e0 e1 hwC hGC
          generalize w6.setCell ⟨G, 0, none⟩ (.slice q6 (A.length + 1) c6) = w7 at *
          go_wp2
          refine ⟨?_, by simp [intOf] <;> omega⟩
          exact ⟨j + 1, g9, q6, c6, by omega, by go_num, Lib.hid (by rw [HLE.out]; exact HL6.out), HB6⟩)
      · have hld : ldA (fs.take (j + 1)) = A := by rw [HLD.out, if_neg hacc]
        have HEND : Hid (∀ W, Below wV.heap.size wV W → Lc W w.heap.size D M G lb lf ((ldA (fs.take (j + 1))).length : Int) (ldA (fs.take (j + 1))) g q cc ∧ Below w.heap.size w W) := Lib.hid fun W hW => by
          rw [hld]
          exact ⟨HCV.out.later hW, below_step HBV.out hW⟩
        cases dk with
        | false =>
          clear HLD hld hacc hdk hAj HYB HC
          go_wp2_with (go_at_call 27; refine (HDK.out _).mono ?_; rintro e w6 ⟨rfl, hb6⟩; have hE := HEND.out _ hb6; have HC6 := Lib.hid hE.1; have HB6 := Lib.hid hE.2; clear hE hb6)
          refine ⟨?_, by simp [intOf] <;> omega⟩
          exact ⟨j + 1, g, q, cc, by omega, by go_num, HC6, HB6⟩
        | true =>
          have hgt : (1048576 : Int) < (yn : Int) := by
            refine Int.not_le.1 fun h => hacc ?_
            unfold accP
            rw [Bool.and_eq_true, decide_eq_true_iff]
            exact ⟨hdk, by dsimp only; omega⟩
          omega
    · obtain rfl : j = fn := by omega
      have hA : ldA (fs.take j) = ldA fs := by rw [List.take_of_length_le (Nat.le_of_eq HFN.out)]
      rw [hA] at HC
      have HCO2 : Hid (∀ a ∈ ldA fs, accP a = true) := Lib.hid (ldA_acc fs)
      have HLE2 : Hid ((ldA fs).length ≤ 1048572) := Lib.hid (by have h1 := HAL.out; rw [HFN.out] at h1; omega)
      have hOK : (ldF (ldA fs)).ok := ldF_ok HCO2.out (by have := HLE2.out; omega)
      have HRES : Hid (loadC lb lf fs = { ldc lb lf ((ldA fs).length : Int) (ldA fs) with F := syncQ (ldF (ldA fs)), K := tidyK (fkA 0 (ldA fs)) (idsP (syncQ (ldF (ldA fs)))) }) := Lib.hid rfl
      have HSUB : Hid (∀ i ∈ idsP (syncQ (ldF (ldA fs))), i ∈ (nmA 0 (ldA fs)).map Nd.id) := Lib.hid fun i hi => by
        obtain ⟨J, hJ⟩ := ld_of fs
        rw [hJ.ids] at hi
        obtain ⟨r, hr, e⟩ := List.getElem_of_mem hi
        have hf := hJ.file r (by rw [← hJ.len]; exact hr)
        rw [List.getD_eq_getElem?_getD, List.getElem?_eq_getElem hr, Option.getD_some, e] at hf
        rw [← fkA_ids]
        exact Classical.byContradiction fun hn => by rw [getK_none hn] at hf; cases hf
      generalize ldA fs = A at *
      have HOK := Lib.hid hOK
      have HDX := Lib.hid HC.out.dx
      obtain ⟨d4, d5, f5, g0, g1, e0⟩ := HC.out.cells
      have HFIT : Hid (Fo.fit wr ⟨q, A.length, cc, none, 0, 0, nmA 0 A, []⟩) := Lib.hid (by
        obtain ⟨p, c, hv, hlc, _, hgs, hpn⟩ := HC.out.r.open
        simp only [Value.slice.injEq] at hv
        obtain ⟨rfl, _, rfl⟩ := hv
        rw [nmA_length] at hgs hlc
        exact ⟨hgs, hpn, hlc, ⟨rfl, Or.inl rfl⟩, fun _ => rfl, Nat.le_refl _⟩)
      have HSY := Lib.hid (fsync_any ⟨q, A.length, cc, none, 0, 0, nmA 0 A, []⟩ wr HFIT.out HOK.out)
      unfold Fo.v at HSY
      dsimp only at HSY
      clear hOK hA
      go_wp2_with (first
        | (go_at_call 30; refine HSY.out.mono ?_; rintro e w2 ⟨⟨yp, yn, yc, yq, ym, yd, yL, yM⟩, rfl, hf2, hy2, hb2⟩; have HY2 := Lib.hid hy2; have HB2 := Lib.hid hb2; have HST := Lib.hid (dsettle_any (HDX.out.later hb2) (by rw [show (ldc lb lf (A.length : Int) A).K = fkA 0 A from rfl, fkA_ids]; exact nmA_rises A 0) ⟨yp, yn, yc, yq, ym, yd, yL, yM⟩ hf2 (by rw [hy2]; exact syncQ_ok HOK.out) (by rw [hy2, show (ldc lb lf (A.length : Int) A).K = fkA 0 A from rfl, fkA_ids]; exact fun i hi => HSUB.out i hi)); unfold Fo.v at HST; clear hb2 hf2 hy2)
        | (go_at_call 29; refine HST.out.mono ?_; rintro e w3 ⟨rfl, ⟨g3, hx3⟩, hk3⟩; have HX3 := Lib.hid hx3; have HK3 := Lib.hid hk3; clear hx3 hk3))
      go_ret
      have hx := HX3.out
      rw [HY2.out] at hx
      rw [HRES.out]
      exact ⟨D, M, rfl, ⟨_, _, _, hx⟩, HDM.out.1, HDM.out.2.1, HK3.out.onto (below_step HB.out HB2.out) (Nat.le_trans HB.out.size HB2.out.size) HDM.out.1 HDM.out.2.1⟩
end Go.Proofs.YtncbgddgkpaoeaaGreat

namespace Go.Proofs.YtncbgddgkpaoeaaGreat
set_option linter.unusedVariables false
open Go.RowKit Go.Lib Go.Maps

def ldr (lb lf la : Int) : Dk := ⟨lb, lf, ⟨[], []⟩, [], la, -1, false, 0⟩
theorem rdisk_neR : 83 ≠ encR.t := by decide
theorem rdisk_neN : 83 ≠ encN.t := by decide
theorem rdisk_ne8 : 83 ≠ 5 := by decide
theorem kept_neN : encR.t ≠ encN.t := by decide
/-- the reference's disk while files are read: A was taken, la is the number that was given last -/
structure Lf (w : World) (B D : Nat) (lb lf la : Int) (A : List (ByteArray × List Int)) (p : Option Addr) (c : Nat) (L : List Kr) : Prop where
  b : Rb w D (ldr lb lf la) fo0 p A.length c
  s : Gw encR w (D + 1) (.slice p A.length c) L
  i : ∀ y ∈ L, Kb w B y
  k : L.map Kr.kt = fkA 0 A
section
variable {w w' : World} {B D : Nat} {lb lf la : Int} {A : List (ByteArray × List Int)} {p : Option Addr} {c : Nat} {L : List Kr}
theorem Lf.later (h : Lf w B D lb lf la A p c L) (hb : Below w.heap.size w w') : Lf w' B D lb lf la A p c L :=
  ⟨h.b.later hb, h.s.later hb, fun y hy => (h.i y hy).later hb, h.k⟩
theorem Lf.cells (h : Lf w B D lb lf la A p c L) : w.cell? ⟨D, 4, none⟩ = some (.slice p A.length c) ∧ w.cell? ⟨D, 5, none⟩ = some (.int .i64 la) ∧ w.frozen? ⟨D, 4, none⟩ = false ∧ w.frozen? ⟨D, 5, none⟩ = false :=
  ⟨h.b.cells.2.2.2.2.1, h.b.cells.2.2.2.2.2.1, h.b.frozen 4, h.b.frozen 5⟩
theorem Lf.tk (h : Lf w B D lb lf la A p c L) (h1 : Tk 83 w w') (h2 : Tk encR.t w w') (h3 : Tk 5 w w') : Lf w' B D lb lf la A p c L :=
  ⟨h1 _ _ h.b, h.s.tk h2, fun y hy => (h.i y hy).tk h3, h.k⟩
/-- where the names' row grows -/
theorem Lf.aside (h : Lf w B D lb lf la A p c L) {v : Value} {N : List Nd} {C : Nat} (ho : Gw encN w C v N) (hg : w.grownBy w' v.ownBlock) : Lf w' B D lb lf la A p c L :=
  h.tk (Tk.row (fun e => rdisk_neN e.symm) ho hg) (Tk.row (fun e => kept_neN e.symm) ho hg) (Tk.row name_ne8 ho hg)
/-- where a row of bytes grows -/
theorem Lf.last (h : Lf w B D lb lf la A p c L) (v : Int) : Lf (w.setCell ⟨D, 5, none⟩ (.int .i64 v)) B D lb lf v A p c L :=
  ⟨h.b.setLast v, h.s.tk (Tk.set h.b rdisk_neR), fun y hy => (h.i y hy).tk (Tk.set h.b rdisk_ne8), h.k⟩
theorem Lf.names {v : Value} {N : List Nd} {C : Nat} (h : Lf w B D lb lf la A p c L) (ho : Gw encN w C v N) (j : Nat) (u : Value) : Gw encN (w.setCell ⟨D, j, none⟩ u) C v N := ho.tk (Tk.set h.b rdisk_neN)
/-- behind append the disk's own cells stand -/
theorem Lf.disk (h : Lf w B D lb lf la A p c L) (hg : w.grownBy w' (Value.slice p A.length c).ownBlock) : Rb w' D (ldr lb lf la) fo0 p A.length c :=
  Tk.row (fun e => rdisk_neR e.symm) h.s hg _ _ h.b
/-- a file more -/
theorem Lf.grow (h : Lf w B D lb lf ((A.length : Int) + 1) A p c L) (f : ByteArray × List Int) {y : Kr} {q : Option Addr} {e : Nat} (hg : w.grownBy w' (Value.slice p A.length c).ownBlock)
    (ho : Gw encR w' (D + 1) (.slice q (A.length + 1) e) (L ++ [y])) (hy : Kb w B y) (hi : y.id = (A.length : Int) + 1) (hz : y.x.zs = f.2) :
    Lf (w'.setCell ⟨D, 4, none⟩ (.slice q (A.length + 1) e)) B D lb lf ((A ++ [f]).length : Int) (A ++ [f]) q e (L ++ [y]) := by
  have hb := h.disk hg
  have hk8 := (Tk.row (e := 5) kept_ne h.s hg).trans (Tk.set (j := 4) (v := .slice q (A.length + 1) e) hb rdisk_ne8)
  have hl : ((A ++ [f]).length : Int) = (A.length : Int) + 1 := by rw [List.length_append]; rfl
  have hl2 : (A ++ [f]).length = A.length + 1 := by rw [List.length_append]; rfl
  refine { b := ?_, s := ?_, i := fun z hz' => ?_, k := ?_ }
  · rw [hl, hl2]; exact hb.setFiles _ _ _
  · rw [hl2]; exact ho.tk (Tk.set hb rdisk_neR)
  · rcases List.mem_append.1 hz' with hm | hm
    · exact (h.i z hm).tk hk8
    · obtain rfl := List.mem_singleton.1 hm
      exact hy.tk hk8
  · have hs := fkA_snoc f A 0
    rw [Nat.zero_add] at hs
    rw [List.map_append, h.k, hs]
    congr 1
    obtain ⟨_, _, _, _, hL⟩ := hy
    show [(⟨y.id, y.x.fi⟩ : Kt)] = _
    rw [hi]
    unfold Ni.fi
    rw [hz, hL]; rfl
theorem Lf.namesG {v : Value} {N : List Nd} {C : Nat} (h : Lf w B D lb lf la A p c L) (hg : w.grownBy w' (Value.slice p A.length c).ownBlock) (ho : Gw encN w C v N) (u : Value) : Gw encN (w'.setCell ⟨D, 4, none⟩ u) C v N :=
  (ho.tk (Tk.row kept_neN h.s hg)).tk (Tk.set (h.disk hg) rdisk_neN)
/-- all files were read -/
theorem Lf.done (h : Lf w B D lb lf (A.length : Int) A p c L) (y : Fo) (hy : Fo.fit w y) :
    Rw ((w.setCell ⟨D, 2, none⟩ (.slice y.p y.n y.c)).setCell ⟨D, 3, none⟩ (.slice y.q y.m y.d)) D ⟨lb, lf, y.fd, fkA 0 A, (A.length : Int), -1, false, 0⟩ := by
  have hb := h.b.setNames y
  have hk : Kp D D w ((w.setCell ⟨D, 2, none⟩ (.slice y.p y.n y.c)).setCell ⟨D, 3, none⟩ (.slice y.q y.m y.d)) := ((Kp.refl _ _ _).setD _ _).setD _ _
  have hb1 : (w.setCell ⟨D, 2, none⟩ (.slice y.p y.n y.c)).heap[D]? = _ := heap_setCell_same _ D 2 _ _ _ h.b
  have hR := (Tk.set (e := encR.t) (j := 2) (v := .slice y.p y.n y.c) h.b rdisk_neR).trans (Tk.set (j := 3) (v := .slice y.q y.m y.d) hb1 rdisk_neR)
  have h8 := (Tk.set (e := 5) (j := 2) (v := .slice y.p y.n y.c) h.b rdisk_ne8).trans (Tk.set (j := 3) (v := .slice y.q y.m y.d) hb1 rdisk_ne8)
  have hL : L.length = A.length := by
    have := congrArg List.length h.k
    rw [List.length_map, fkA_length] at this
    exact this
  obtain ⟨p', c', hv, hlc, _, hgs, hpn⟩ := (h.s.tk hR).open
  simp only [Value.slice.injEq] at hv
  obtain ⟨rfl, _, rfl⟩ := hv
  rw [hL] at hlc hgs
  exact ⟨y, p, A.length, c, L,
    { b := hb.as rfl rfl rfl rfl rfl rfl
      f := hy.kp hk h.b.nix h.b.nix
      fd := rfl
      s := hgs
      k := h.k
      i := fun z hz => ((h.i z hz).tk h8).fit
      pn := hpn
      le := hlc
      sp := fun a ha => Gw.above h.s a ha }⟩
end
/-- the own row of bytes that a kept file is given -/
theorem Tk.bytes {e : TypeId} (hne : 5 ≠ e) {w w' : World} {B : Nat} {v : Value} {zs : List Int} (ho : Ob w B 5 v zs) (hg : w.grownBy w' v.ownBlock) : Tk e w w' := fun b cs hb => by
  rw [hg.block b (Array.getElem?_eq_some_iff.1 hb).1 (fun h' => ?_)]
  · exact hb
  · rcases ho.2.2 with ⟨e0, _⟩ | ⟨g, cap, cur, e0, _, hr, _⟩
    · rw [e0] at h'; cases h'
    · rw [e0] at h'
      obtain rfl : b = g := by simpa [Value.ownBlock] using h'
      rw [hb] at hr
      simp only [Option.some.injEq, Obj.cells.injEq] at hr
      exact absurd hr.2.1.symm hne
end Go.Proofs.YtncbgddgkpaoeaaGreat

namespace Go.Proofs.YtncbgddgkpaoeaaGreat
set_option linter.unusedVariables false
open Go.RowKit Go.Lib Go.Maps

set_option maxRecDepth 100000 in
set_option maxHeartbeats 4000000 in
theorem rload12_any (lb lf : Int) (fp : Option Addr) (fn fc : Nat) (L : List Fx) (w : World) (hL : Gs encF w fp fn L) (hY : ∀ c ∈ L, fxI w c ∧ fxSz c ≤ 1048576) (hn : fn ≤ 1048572) :
    Calls Tryz.prog 8 #[.agg #[.int .i64 lb, .int .i64 lf], .slice fp fn fc] w fun e w' => ∃ D, e = .returned (.pointer (some ⟨D, 0, none⟩)) ∧ Rw w' D (loadR lb lf (L.map Fx.pr)) ∧ w.heap.size ≤ D ∧ Below w.heap.size w w' := by
  obtain ⟨fs, hfs⟩ : ∃ fs, L.map Fx.pr = fs := ⟨_, rfl⟩
  have hll := hL.1
  have HFN : Hid (fs.length = fn) := Lib.hid (by rw [← hfs, List.length_map, hll])
  rw [hfs]
  obtain ⟨wL, hwL⟩ : ∃ A, w.alloc (.cells #[.int .i64 lb, .int .i64 lf] 23) = A := ⟨_, rfl⟩
  have hBL : Below w.heap.size w wL := by rw [← hwL]; exact (Below.refl _ _).alloc (Nat.le_refl _) _
  have HBL := Lib.hid hBL
  have l0 : wL.cell? ⟨w.heap.size, 0, none⟩ = some (.int .i64 lb) := by rw [← hwL, cell_of_row _ _ _ _ _ _ (heap_alloc_new _ _)]; rfl
  have l1 : wL.cell? ⟨w.heap.size, 1, none⟩ = some (.int .i64 lf) := by rw [← hwL, cell_of_row _ _ _ _ _ _ (heap_alloc_new _ _)]; rfl
  have HLS := Lib.hid hL
  have HYS := Lib.hid hY
  have HBB := Lib.hid (ldB_both fs)
  have HBT := Lib.hid fun j => ldB_both (fs.take j)
  clear hBL hL hY
  go_enter Tryz.func8, Tryz.ntmps8
  go_wp2_with (go_at_call 31; refine (rnew12_any lb lf wL).mono ?_; rintro e w1 ⟨D, rfl, hx1, hd1, hb1⟩; have HX1 : Hid (Lf w1 w.heap.size D lb lf 0 [] none 0 []) := Lib.hid ⟨hx1.b, Gw.nil _ _ _, (fun y hy => by cases hy), rfl⟩; have HDL := Lib.hid (Nat.le_trans HBL.out.size hd1); have HB1 := Lib.hid (below_step HBL.out hb1); clear hx1 hd1 hb1)
  clear hwL l0 l1
  go_loopw [6, 7] (fun v i wr => ∃ (j : Nat) (T : List Kr) (q p : Option Addr) (cc c : Nat), j ≤ fn ∧ i = .int .i64 (j : Int) ∧ v = .slice q (ldB (fs.take j)).length cc ∧ Hid (Lf wr w.heap.size D lb lf ((ldB (fs.take j)).length : Int) (ldB (fs.take j)) p c T) ∧ Hid (Gw encN wr w.heap.size (.slice q (ldB (fs.take j)).length cc) (nmA 0 (ldB (fs.take j)))) ∧ Hid (Below w.heap.size w wr)) (fun _ i _ => fn - (intOf i).toNat)
  case atStart => exact ⟨0, [], none, none, 0, 0, Nat.zero_le _, rfl, rfl, HX1, Lib.hid (Gw.nil _ _ _), HB1⟩
  case round =>
    obtain ⟨j, T, q, p, cc, c, hj, rfl, rfl, HC, HN, HB⟩ := hrel
    by_cases hlt : j < fn
    · have hkn : (j : Int) < (fn : Int) := by omega
      have hk0 : (0 : Int) ≤ (j : Int) := by omega
      obtain ⟨b, off, hpp, k0, k1⟩ := (HLS.out.later HB.out).fx j hlt
      subst hpp
      have hmem : L.getD j fx0 ∈ L := by
        rw [List.getD_eq_getElem?_getD, List.getElem?_eq_getElem (by omega)]
        exact List.getElem_mem (by omega)
      obtain ⟨⟨hyb, hyp, hyn⟩, hys⟩ := HYS.out _ hmem
      have HYB := Lib.hid hyb
      have htk : fs.take (j + 1) = fs.take j ++ [(L.getD j fx0).pr] := by
        rw [List.take_succ_eq_append_getElem (by rw [HFN.out]; exact hlt)]
        congr 1
        rw [List.getD_eq_getElem?_getD, List.getElem?_eq_getElem (by omega)]
        simp [← hfs]
      have hld := ldB_snoc (fs.take j) (L.getD j fx0).pr
      rw [← htk] at hld
      have HLD := Lib.hid hld
      have HAJ : Hid ((ldB (fs.take j)).length ≤ fn) := Lib.hid (by
        have h1 := (HBT.out j).1
        have h2 := List.length_take_le j fs
        have h3 := HFN.out
        rw [List.length_take] at h1
        omega)
      have HAC := Lib.hid (HBT.out j).2
      have HFX : Hid (∀ W, Below w.heap.size w W → W.cell? ⟨b, off + j * 2, none⟩ = some (.string (L.getD j fx0).s) ∧ W.cell? ⟨b, off + j * 2 + 1, none⟩ = some (.slice (L.getD j fx0).p (L.getD j fx0).n (L.getD j fx0).c)) := Lib.hid fun W hW => by
        obtain ⟨b2, off2, hp2, e0, e1⟩ := (HLS.out.later hW).fx j hlt
        simp only [Option.some.injEq, Addr.mk.injEq, and_true] at hp2
        obtain ⟨rfl, rfl⟩ := hp2
        exact ⟨e0, e1⟩
      clear hmem htk hld
      generalize L.getD j fx0 = y at *
      obtain ⟨ys, yp, yn, yc, yz⟩ := y
      unfold Fx.pr at HLD
      unfold fxSz at hys
      dsimp only at k0 k1 HYB hyp hyn hys HLD HFX
      generalize hAj : ldB (fs.take j) = A at *
      have hzl : yz.length = yn := HYB.out.len
      have hss : ys.size ≤ 140737488355328 := by omega
      have hyn2 : yn ≤ 2097152 := by omega
      have hyn3 : (yn : Int) ≤ 1048576 := by omega
      have hOK : (ldF A).ok := ldF_ok HAC.out (by have := HAJ.out; omega)
      have HFIT : Hid (Fo.fit wr ⟨q, A.length, cc, none, 0, 0, nmA 0 A, []⟩) := Lib.hid (by
        obtain ⟨p, c, hv, hlc, _, hgs, hpn⟩ := HN.out.open
        simp only [Value.slice.injEq] at hv
        obtain ⟨rfl, _, rfl⟩ := hv
        rw [nmA_length] at hgs hlc
        exact ⟨hgs, hpn, hlc, ⟨rfl, Or.inl rfl⟩, fun _ => rfl, Nat.le_refl _⟩)
      have HFD := Lib.hid (rffind_any ⟨q, A.length, cc, none, 0, 0, nmA 0 A, []⟩ ys wr HFIT.out hOK)
      rw [show Fo.fd ⟨q, A.length, cc, none, 0, 0, nmA 0 A, []⟩ = (⟨nmA 0 A, []⟩ : Fd) from rfl, (now_find (nmA 0 A)).2] at HFD
      unfold Fo.v at HFD
      dsimp only at HFD
      have HDK := Lib.hid fun W => rdisk_any ys W hss
      obtain ⟨dk, hdk⟩ : ∃ b, diskP (numsOf ys) = b := ⟨_, rfl⟩
      rw [hdk] at HDK
      clear hOK HFIT
      by_cases hacc : accP (ys, yz) = true ∧ findP (nmA 0 A) ys = none
      · have hld : ldB (fs.take (j + 1)) = A ++ [(ys, yz)] := by rw [HLD.out]; unfold ldS; rw [if_pos hacc]
        have hac := hacc.1
        unfold accP at hac
        rw [Bool.and_eq_true, decide_eq_true_iff] at hac
        have hdt : dk = true := by rw [← hdk]; exact hac.1
        subst hdt
        rw [hacc.2] at HFD
        unfold fndV at HFD
        try dsimp only at HFD
        have HK1 : Hid (InI ((A.length : Int) + 1)) := Lib.hid (by have := HAJ.out; unfold InI; omega)
        have hw1 : IntKind.i64.wrap ((A.length : Int) + 1) = (A.length : Int) + 1 := by have := HAJ.out; rw [IntKind.wrap_i64]; omega
        have HLE : Hid (ldB (fs.take (j + 1)) = A ++ [(ys, yz)]) := Lib.hid hld
        clear HLD hld hacc hac hdk hAj
        go_wp2_with (first
          | (go_at_call 32; refine HFD.out.mono ?_; rintro e w6 ⟨rfl, hb6⟩; have HC6 := Lib.hid (HC.out.later hb6); have HN6 := Lib.hid (HN.out.later hb6); have HB6 := Lib.hid (below_step HB.out hb6); obtain ⟨x0, x1⟩ := HFX.out _ HB6.out; obtain ⟨d4, d5, f4, f5⟩ := HC6.out.cells; clear hb6)
          | (go_at_call 33; refine (HDK.out _).mono ?_; rintro e w6' ⟨rfl, rfl⟩))
        have HC7 := Lib.hid (HC6.out.last ((A.length : Int) + 1))
        have HN7 := Lib.hid (HC6.out.names HN6.out 5 (.int .i64 ((A.length : Int) + 1)))
        have HB7 : Hid (Below w.heap.size w (w6.setCell ⟨D, 5, none⟩ (.int .i64 ((A.length : Int) + 1)))) := Lib.hid (HB6.out.setCell (p := ⟨D, 5, none⟩) HDL.out _)
        generalize w6.setCell ⟨D, 5, none⟩ (.int .i64 ((A.length : Int) + 1)) = w7 at *
        clear x0 x1 d4 d5 f4 f5 HC6 HN6 HB6 HDK k0 k1
        have HD7 : Hid (Below w7.heap.size w7 w7.drew) := Lib.hid (Below.refl _ _).drew
        obtain ⟨wC, hwC⟩ : ∃ W, w7.drew.alloc (.cells #[.string ys, .int .i64 ((A.length : Int) + 1)] 75) = W := ⟨_, rfl⟩
        obtain ⟨GC, hGC⟩ : ∃ G, w7.drew.heap.size = G := ⟨_, rfl⟩
        have HBC : Hid (Below w7.drew.heap.size w7.drew wC) := Lib.hid (by rw [← hwC]; exact (Below.refl _ _).alloc (Nat.le_refl _) _)
        have HNC : Hid (Gs encN wC (some ⟨GC, 0, none⟩) 1 [⟨ys, (A.length : Int) + 1⟩]) := Lib.hid (by rw [← hwC, ← hGC]; exact Gs.one encN _ ⟨ys, (A.length : Int) + 1⟩ _ rfl _ _)
        have HDC := Lib.hid (below_step HD7.out HBC.out)
        have HCC := Lib.hid (HC7.out.later HDC.out)
        have HNX := Lib.hid (HN7.out.later HDC.out)
        have HBXC := Lib.hid (below_step HB7.out HDC.out)
        have HNL : Hid ((nmA 0 A).length ≤ 2097151) := Lib.hid (by rw [nmA_length]; have := HAJ.out; omega)
        have HFK : Hid (∀ W, Below w7.heap.size w7 W → W.cell? ⟨b, off + j * 2, none⟩ = some (.string ys) ∧ W.cell? ⟨D, 5, none⟩ = some (.int .i64 ((A.length : Int) + 1))) := Lib.hid fun W hW => ⟨(HFX.out W (below_step HB7.out hW)).1, (HC7.out.later hW).cells.2.1⟩
        have k0 := HFK.out _ (Below.refl _ _)
        have k1 := HFK.out _ HD7.out
        have k2 := HFK.out _ HDC.out
        go_region_held3 (fun W => W.cell? ⟨b, off + j * 2, none⟩ = some (.string ys) ∧ W.cell? ⟨D, 5, none⟩ = some (.int .i64 ((A.length : Int) + 1))) (first | exact k0 | exact k1 | exact k2 | exact k3) (first
          | (refine step_append_gen encN rfl (.tmp 55) (.tmp 66) 61 rfl Tryz.underlying61 nzero 24 infoN rfl (by decide) w.heap.size (.slice q A.length cc) (nmA 0 A) rfl HNX.out _ 1 1 [⟨ys, (A.length : Int) + 1⟩] rfl HNC.out (fun h => by cases h) (by have := HNL.out; omega) HBXC.out.size ?_; intro v8 w8 ho8 hg8; obtain ⟨q8, c8, hv8, hlc8, _, _, _⟩ := ho8.open; rw [List.length_append, nmA_length] at hv8; subst hv8; have HN8 := Lib.hid ho8; have HC8 := Lib.hid (HCC.out.aside HNX.out hg8); have HB8 := Lib.hid (below_new_gw HBXC.out HNX.out hg8 HBXC.out.size); have k3 := And.intro (HFX.out _ HB8.out).1 HC8.out.cells.2.1; clear ho8 hg8 hlc8))
        clear k0 k1 k2 k3 HFK hwC hGC HBC HNC HDC HCC HNX HBXC HC7 HN7 HB7 HD7
        have HD8 : Hid (Below w8.heap.size w8 w8.drew) := Lib.hid (Below.refl _ _).drew
        have HXD := Lib.hid (below_step HB8.out HD8.out)
        have HYD := Lib.hid (HYB.out.later HXD.out)
        have HO0 : Hid (Ob w8.drew w8.heap.size 5 (.slice none 0 0) []) := Lib.hid (Ob.nil _ _ _)
        have HCD := Lib.hid (HC8.out.later HD8.out)
        have HND := Lib.hid (HN8.out.later HD8.out)
        have HTL : Hid (T.length = A.length) := Lib.hid (by
          have := congrArg List.length HC8.out.k
          rw [List.length_map, fkA_length] at this
          exact this)
        have HFK : Hid (∀ W, Below w8.heap.size w8 W → W.cell? ⟨D, 4, none⟩ = some (.slice p A.length c) ∧ W.cell? ⟨D, 5, none⟩ = some (.int .i64 ((A.length : Int) + 1)) ∧ W.cell? ⟨b, off + j * 2 + 1, none⟩ = some (.slice yp yn yc)) := Lib.hid fun W hW => ⟨(HC8.out.later hW).cells.1, (HC8.out.later hW).cells.2.1, (HFX.out W (below_step HB8.out hW)).2⟩
        obtain ⟨a0, a1, a2⟩ := HFK.out _ (Below.refl _ _)
        obtain ⟨b0, b1, b2⟩ := HFK.out _ HD8.out
        go_wp2_with fail
        go_region_law (first
          | (refine step_append_bytes rfl (.const (.slice none 0 0)) (.tmp 81) 32 5 rfl Tryz.underlying32 info8 w8.heap.size _ [] rfl HO0.out yp yn yc yz rfl HYD.out hyp (by simp only [List.length_nil]; omega) HD8.out.size ?_; intro v9 w9 ho9 hg9; rw [List.nil_append] at ho9; obtain ⟨p9, c9, hv9, hlc9, hcm9, hbs9, hpc9⟩ := ho9.open; rw [hzl] at hv9; subst hv9; have HY9 := Lib.hid (below_new HD8.out HO0.out hg9 HD8.out.size); have HO9 := Lib.hid ho9; obtain ⟨wK, hwK⟩ : ∃ W, w9.alloc (.cells #[.int .i64 ((A.length : Int) + 1), .slice p9 yn c9, .slice none 0 0] 85) = W := ⟨_, rfl⟩; obtain ⟨GK, hGK⟩ : ∃ G, w9.heap.size = G := ⟨_, rfl⟩; have HBK : Hid (Below w9.heap.size w9 wK) := Lib.hid (by rw [← hwK]; exact (Below.refl _ _).alloc (Nat.le_refl _) _); have HGK : Hid (Gs encR wK (some ⟨GK, 0, none⟩) 1 [⟨(A.length : Int) + 1, ⟨p9, yn, c9, none, 0, 0, yz, []⟩⟩]) := Lib.hid (by rw [← hwK, ← hGK]; exact Gs.one encR w9 ⟨(A.length : Int) + 1, ⟨p9, yn, c9, none, 0, 0, yz, []⟩⟩ _ rfl _ _); have HYK := Lib.hid (below_step HY9.out HBK.out); have HCK := Lib.hid (HC8.out.later HYK.out); have HNK := Lib.hid (HN8.out.later HYK.out); have HBB9 := Lib.hid (below_step HB8.out HYK.out); have HKB : Hid (Kb wK w.heap.size ⟨(A.length : Int) + 1, ⟨p9, yn, c9, none, 0, 0, yz, []⟩⟩) := Lib.hid ⟨(HO9.out.later HBK.out).mono HB8.out.size, rfl, rfl, rfl, rfl⟩; obtain ⟨c0, c1, c2⟩ := HFK.out _ HY9.out; obtain ⟨e0, e1, e2⟩ := HFK.out _ HYK.out; clear ho9 hg9 hlc9 hcm9 hbs9 hpc9)
          | (refine step_append_gen encR rfl (.tmp 72) (.tmp 85) 81 rfl Tryz.underlying81 (.agg #[.int .i64 0, .slice none 0 0, .slice none 0 0]) 56 infoR rfl (by decide) (D + 1) (.slice p A.length c) T rfl HCK.out.s _ 1 1 [⟨(A.length : Int) + 1, ⟨p9, yn, c9, none, 0, 0, yz, []⟩⟩] rfl HGK.out (fun h => by cases h) (by rw [HTL.out]; have := HAJ.out; omega) HCK.out.b.lt ?_; intro v10 w10 ho10 hg10; obtain ⟨p10, c10, hv10, hlc10, _, _, _⟩ := ho10.open; rw [List.length_append, HTL.out] at hv10; subst hv10; have HL10 := Lib.hid (HCK.out.grow (ys, yz) hg10 ho10 HKB.out rfl rfl); have HN10 := Lib.hid (HCK.out.namesG hg10 HNK.out (.slice p10 (A.length + 1) c10)); have HB10 := Lib.hid ((below_new_gw HBB9.out (HCK.out.s.mono (Nat.le_succ_of_le HDL.out)) hg10 HBB9.out.size).setCell (p := ⟨D, 4, none⟩) HDL.out (.slice p10 (A.length + 1) c10)); have g0 := (HCK.out.disk hg10).frozen 4; have g1 := (HCK.out.disk hg10).cells.2.2.2.2.1; clear ho10 hg10 hlc10))
        all_goals (
          clear a0 a1 a2 b0 b1 b2 c0 c1 c2 e0 e1 e2 g0 g1 hwK hGK
          generalize w10.setCell ⟨D, 4, none⟩ (.slice p10 (A.length + 1) c10) = w11 at *
          generalize hTT : T ++ [(⟨(A.length : Int) + 1, ⟨p9, yn, c9, none, 0, 0, yz, []⟩⟩ : Kr)] = TT at *
          have HQE : Hid ((Value.slice q8 (A.length + 1) c8) = .slice q8 (ldB (fs.take (j + 1))).length c8) := Lib.hid (by rw [HLE.out, List.length_append]; rfl)
          have HNE : Hid (Gw encN w11 w.heap.size (.slice q8 (ldB (fs.take (j + 1))).length c8) (nmA 0 (ldB (fs.take (j + 1))))) := Lib.hid (by
            have hs := nmA_snoc (ys, yz) A 0
            rw [Nat.zero_add] at hs
            rw [← HQE.out, HLE.out, hs]
            exact HN10.out)
          clear HN10 HNK HCK HBK HGK HYK HKB HO9 HY9 HBB9 HFK hTT HN8 HC8 HB8
          go_wp2
          refine ⟨?_, by simp [intOf] <;> omega⟩
          exact ⟨j + 1, TT, q8, p10, c8, c10, by omega, by go_num, HQE.out, Lib.hid (by rw [HLE.out]; exact HL10.out), HNE, HB10⟩)
      · have hld : ldB (fs.take (j + 1)) = A := by rw [HLD.out]; unfold ldS; rw [if_neg hacc]
        have HEND : Hid (∀ W, Below wr.heap.size wr W → Lf W w.heap.size D lb lf ((ldB (fs.take (j + 1))).length : Int) (ldB (fs.take (j + 1))) p c T ∧ Gw encN W w.heap.size (.slice q (ldB (fs.take (j + 1))).length cc) (nmA 0 (ldB (fs.take (j + 1)))) ∧ Below w.heap.size w W) := Lib.hid fun W hW => by
          rw [hld]
          exact ⟨HC.out.later hW, HN.out.later hW, below_step HB.out hW⟩
        have HQE : Hid ((Value.slice q A.length cc) = .slice q (ldB (fs.take (j + 1))).length cc) := Lib.hid (by rw [hld])
        cases hf : findP (nmA 0 A) ys with
        | some r =>
          rw [hf] at HFD
          unfold fndV at HFD
          try dsimp only at HFD
          clear HLD hld hacc hdk hAj HYB HC HN hf
          go_wp2_with (go_at_call 32; refine HFD.out.mono ?_; rintro e w6 ⟨rfl, hb6⟩; have HE := Lib.hid (HEND.out _ hb6); have HB6 := Lib.hid (below_step HB.out hb6); obtain ⟨x0, x1⟩ := HFX.out _ HB6.out; clear hb6)
          refine ⟨?_, by simp [intOf] <;> omega⟩
          exact ⟨j + 1, T, q, p, cc, c, by omega, by go_num, HQE.out, Lib.hid HE.out.1, Lib.hid HE.out.2.1, Lib.hid HE.out.2.2⟩
        | none =>
          have hdf : dk = false := by
            rw [← Bool.not_eq_true]
            intro h
            refine hacc ⟨?_, hf⟩
            unfold accP
            rw [Bool.and_eq_true, decide_eq_true_iff]
            exact ⟨by rw [hdk]; exact h, by dsimp only; omega⟩
          subst hdf
          rw [hf] at HFD
          unfold fndV at HFD
          try dsimp only at HFD
          clear HLD hld hacc hdk hAj HYB HC HN hf
          go_wp2_with (first
            | (go_at_call 32; refine HFD.out.mono ?_; rintro e w6 ⟨rfl, hb6⟩; have HE := Lib.hid (HEND.out _ hb6); have HB6 := Lib.hid (below_step HB.out hb6); obtain ⟨x0, x1⟩ := HFX.out _ HB6.out; clear hb6)
            | (go_at_call 33; refine (HDK.out _).mono ?_; rintro e w6' ⟨rfl, rfl⟩))
          refine ⟨?_, by simp [intOf] <;> omega⟩
          exact ⟨j + 1, T, q, p, cc, c, by omega, by go_num, HQE.out, Lib.hid HE.out.1, Lib.hid HE.out.2.1, Lib.hid HE.out.2.2⟩
    · obtain rfl : j = fn := by omega
      have hA : fs.take j = fs := List.take_of_length_le (Nat.le_of_eq HFN.out)
      rw [hA] at HC HN
      have hOK : (ldF (ldB fs)).ok := ldF_ok HBB.out.2 (by have := HBB.out.1; have := HFN.out; omega)
      have HRES : Hid (loadR lb lf fs = ⟨lb, lf, ⟨nowQ (ldF (ldB fs)), []⟩, fkA 0 (ldB fs), ((ldB fs).length : Int), -1, false, 0⟩) := Lib.hid rfl
      have hgo : (.slice q (ldB (fs.take j)).length cc : Value) = .slice q (ldB fs).length cc := by rw [hA]
      rw [hgo]
      generalize ldB fs = A at *
      have HFIT : Hid (Fo.fit wr ⟨q, A.length, cc, none, 0, 0, nmA 0 A, []⟩) := Lib.hid (by
        obtain ⟨p, c, hv, hlc, _, hgs, hpn⟩ := HN.out.open
        simp only [Value.slice.injEq] at hv
        obtain ⟨rfl, _, rfl⟩ := hv
        rw [nmA_length] at hgs hlc
        exact ⟨hgs, hpn, hlc, ⟨rfl, Or.inl rfl⟩, fun _ => rfl, Nat.le_refl _⟩)
      have HNW := Lib.hid (rfnow_any ⟨q, A.length, cc, none, 0, 0, nmA 0 A, []⟩ wr HFIT.out hOK)
      unfold Fo.v at HNW
      dsimp only at HNW
      clear hOK hA hgo HFIT
      go_wp2_with (go_at_call 34; refine HNW.out.mono ?_; rintro e w2 ⟨v2, rfl, ho2, hb2⟩; obtain ⟨p2, c2, hv2, hlc2, _, hgs2, hpn2⟩ := ho2.open; subst hv2; have HF2 : Hid (Fo.fit w2 ⟨p2, (nowQ (ldF A)).length, c2, none, 0, 0, nowQ (ldF A), []⟩) := Lib.hid ⟨hgs2, hpn2, hlc2, ⟨rfl, Or.inl rfl⟩, fun _ => rfl, Nat.le_refl _⟩; have HC2 := Lib.hid (HC.out.later hb2); have HB2 := Lib.hid (below_step HB.out hb2); obtain ⟨_, _, d2, d3, _⟩ := HC2.out.b.cells; have z2 := HC2.out.b.frozen 2; have z3 := HC2.out.b.frozen 3; clear ho2 hb2 hlc2 hgs2 hpn2)
      go_ret
      rw [HRES.out]
      exact ⟨D, rfl, HC2.out.done ⟨p2, (nowQ (ldF A)).length, c2, none, 0, 0, nowQ (ldF A), []⟩ HF2.out, HDL.out, (HB2.out.setCell (p := ⟨D, 2, none⟩) HDL.out _).setCell (p := ⟨D, 3, none⟩) HDL.out _⟩
end Go.Proofs.YtncbgddgkpaoeaaGreat
