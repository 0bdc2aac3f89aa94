/- Notions on byte slices that all layers share; Rising rows of numbers, plainly; A list of 32 numbers is its 32 numbers; Worlds in which the blocks of a set may turn; A sum and its greatest part -/
import Derived.Test.YtpfbfhigelbfcaaGreatRows
import Derived.WalkKit
import Derived.RegionTactic
import Derived.ChangeAlike
import Derived.BigQuiet
import Derived.Deep.QuietTactic
import Derived.Outline
import Derived.Lib.Hide
import Derived.WalkSpells
import Derived.WalkLawsBesides
import Derived.Laws.BytesArg
import Derived.ChangeSlices
import Derived.ChangeMaps5
set_option linter.unusedSimpArgs false
set_option linter.unusedVariables false
namespace Go.Proofs.YtpfbfhigelbfcaaGreat
open Go.RowKit Go.ChangeShapes Go.WideShapes Go.Lib
theorem ret_bool {a b : Bool} (h : a = b) : Ending.returned (.bool a) = .returned (.bool b) := by rw [h]
theorem wrap_u64_in {x : Int} (h0 : 0 ≤ x) (h1 : x < 18446744073709551616) : IntKind.u64.wrap x = x := by
 have e1 : IntKind.u64.signed = false := rfl
 have e2 : (2 ^ IntKind.u64.bits : Int) = 18446744073709551616 := by decide
 simp only [IntKind.wrap, e1, e2, Bool.false_and, Bool.false_eq_true, if_false]
 omega
theorem take_step {xs ys : List Int} {k : Nat} (hx : k < xs.length) (hy : k < ys.length) (h : xs.take k = ys.take k) (e : xs[k]?.getD 0 = ys[k]?.getD 0) : xs.take (k + 1) = ys.take (k + 1) := by
 rw [List.take_succ_eq_append_getElem hx, List.take_succ_eq_append_getElem hy, h]
 have e' : xs[k] = ys[k] := by simpa [List.getElem?_eq_getElem hx, List.getElem?_eq_getElem hy] using e
 rw [e']
/-- Bytes that a slice reads as. -/
def Bs (w : World) (p : Option Addr) (len : Nat) (zs : List Int) : Prop :=
 zs.length = len ∧ (∀ j, 0 ≤ zs.getD j 0 ∧ zs.getD j 0 < 256) ∧ (len = 0 ∨ ∃ b off, p = some ⟨b, off, none⟩ ∧ ∀ j, j < len → w.cell? ⟨b, off + j, none⟩ = some (.int .u8 (zs.getD j 0)))
theorem Bs.len {w : World} {p : Option Addr} {n : Nat} {zs : List Int} (h : Bs w p n zs) : zs.length = n := h.1
theorem Bs.byte {w : World} {p : Option Addr} {n : Nat} {zs : List Int} (h : Bs w p n zs) : ∀ j, 0 ≤ zs.getD j 0 ∧ zs.getD j 0 < 256 := h.2.1
theorem Bs.later {w w' : World} {p : Option Addr} {n : Nat} {zs : List Int} (h : Bs w p n zs) (hb : Below w.heap.size w w') : Bs w' p n zs := by
 obtain ⟨h1, h2, h3⟩ := h
 refine ⟨h1, h2, ?_⟩
 rcases h3 with h3 | ⟨b, off, hp, hc⟩
 ·exact Or.inl h3
 ·refine Or.inr ⟨b, off, hp, fun j hj => ?_⟩
  have hl := World.block_lt_of_cell? w _ (hc j hj)
  rw [hb.cell hl]
  exact hc j hj
/-- A window of the slice, at the address that 'x[l:h]' gives. -/
theorem Bs.window {w : World} {b off n : Nat} {zs : List Int} (h : Bs w (some ⟨b, off, none⟩) n zs) (l m : Nat) (hm : l + m ≤ n) : Bs w (some ⟨b, off + l, none⟩) m ((zs.drop l).take m) := by
 obtain ⟨h1, h2, h3⟩ := h
 have hl : ((zs.drop l).take m).length = m := by simp; omega
 refine ⟨hl, fun j => ?_, ?_⟩
 ·by_cases hj : j < m
  ·have e : ((zs.drop l).take m).getD j 0 = zs.getD (l + j) 0 := by
    simp [List.getD_eq_getElem?_getD, List.getElem?_drop, hj]
   rw [e]; exact h2 _
  ·have e : ((zs.drop l).take m).getD j 0 = 0 := by
    rw [List.getD_eq_getElem?_getD, List.getElem?_eq_none (by omega)]; rfl
   rw [e]; omega
 ·by_cases hz : m = 0
  ·exact Or.inl hz
  ·rcases h3 with h3 | ⟨b', off', hp, hc⟩
   ·omega
   ·right
    simp only [Option.some.injEq, Addr.mk.injEq, and_true] at hp
    obtain ⟨rfl, rfl⟩ := hp
    refine ⟨b, off + l, rfl, fun j hj => ?_⟩
    rw [Nat.add_assoc, hc (l + j) (by omega)]
    simp [List.getD_eq_getElem?_getD, List.getElem?_drop, hj]
/-- A string, opened. -/
theorem open_str' {H : Type} {enc : TypeId × Value → H} {P : Program} {W : World} {base : Nat} {sp : Nat → Bool} {held : Bool} {t : TypeId} {fuel : Nat} {v : Value} {x : DataW H × List MemPlace} (ht : P.underlying t = some .string)
 (h : DataW.trod enc P W base sp held fuel t [v] = some x) : ∃ s : ByteArray, v = .string s ∧ s.size ≤ maxLen ∧ Rows.uptoBulk x.1 = s.size + 1 := by
 obtain ⟨s, hcs, hx, hs⟩ := DataW.trod_string ht h
 simp only [List.cons.injEq, and_true] at hcs
 refine ⟨s, hcs, hs, ?_⟩
 subst hx
 simp [Rows.uptoBulk]
/-- An integer, opened. -/
theorem open_int' {H : Type} {enc : TypeId × Value → H} {P : Program} {W : World} {base : Nat} {sp : Nat → Bool} {held : Bool} {t : TypeId} {k : IntKind} {fuel : Nat} {v : Value} {x : DataW H × List MemPlace} (ht : P.underlying t = some (.int k))
 (h : DataW.trod enc P W base sp held fuel t [v] = some x) : ∃ n, v = .int k n ∧ (Lit.int k n).wf = true := by
 obtain ⟨n, hcs, hx, hw⟩ := DataW.trod_int ht h
 simp only [List.cons.injEq, and_true] at hcs
 exact ⟨n, hcs, hw⟩
theorem wf_i64 {n : Int} (h : (Lit.int .i64 n).wf = true) : -9223372036854775808 ≤ n ∧ n ≤ 9223372036854775807 := by simpa [Lit.wf, IntKind.min, IntKind.max, IntKind.signed, IntKind.bits] using h
theorem run_slice_from {P : Program} (W : World) (t e : TypeId) (ht : P.underlying t = some (.slice e)) (hz : ∀ w, (Go.sizeOf e).run P w = .ok 1 w) (b o len cap l : Nat) (hl : l ≤ len) :
 (Instr.slice t (.slice (some ⟨b, o, none⟩) len cap) (some (.int .i64 (l : Int))) none none).run P W = .ok (.slice (some ⟨b, if cap = l then o else o + l, none⟩) (len - l) (cap - l)) W := by
 have ht' : P.underlying t = some (.slice (P.elem t)) := by simp [Program.elem, ht]
 have he : P.elem t = e := by simp [Program.elem, ht]
 rw [run_slice_l W t _ _ _ ht' .i64 _ (by omega) (by omega), he, hz]
 by_cases hc : cap = l
 ·simp [Result.andThen, sliced, hc]
 ·by_cases h0 : l = 0
  ·subst h0
   simp [Result.andThen, sliced, Addr.add, hc]
  ·simp [Result.andThen, sliced, Addr.add, hc, h0]
theorem Bs.empty (w : World) (p : Option Addr) : Bs w p 0 [] := ⟨rfl, fun j => by simp, Or.inl rfl⟩
theorem Bs.drop {w : World} {b o n : Nat} {zs : List Int} (h : Bs w (some ⟨b, o, none⟩) n zs) (l cap : Nat) (hl : l ≤ n) (hc : n ≤ cap) : Bs w (some ⟨b, if cap = l then o else o + l, none⟩) (n - l) (zs.drop l) := by
 have hn := h.len
 by_cases e : cap = l
 ·obtain rfl : l = n := by omega
  rw [List.drop_of_length_le (by omega), Nat.sub_self]
  exact Bs.empty _ _
 ·rw [if_neg e]
  have := h.window l (n - l) (by omega)
  rwa [List.take_of_length_le (by simp; omega)] at this
theorem Bs.take {w : World} {b o n : Nat} {zs : List Int} (h : Bs w (some ⟨b, o, none⟩) n zs) (m : Nat) (hm : m ≤ n) : Bs w (some ⟨b, o, none⟩) m (zs.take m) := by
 have := h.window 0 m (by omega)
 simpa using this
end Go.Proofs.YtpfbfhigelbfcaaGreat
namespace Go.Proofs.YtpfbfhigelbfcaaGreat
open Go.RowKit Go.Lib
def irises (l : List Int) : Prop := l.Pairwise (· < ·)
def putIR (n : Int) : List Int → Bool → List Int
 | [], t => if t then [] else [n]
 | y :: l, t => (if t = false ∧ n ≤ y ∧ n < y then [n] else []) ++ (y :: putIR n l (t || decide (n ≤ y)))
def putI (l : List Int) (n : Int) : List Int := putIR n l false
theorem putIR_length (n : Int) : ∀ l t, (putIR n l t).length ≤ l.length + (if t then 0 else 1)
 | [], t => by cases t <;> simp [putIR]
 | y :: l, t => by
   have h := putIR_length n l (t || decide (n ≤ y))
   simp only [putIR, List.length_append, List.length_cons]
   cases t
   ·by_cases h1 : n ≤ y <;> by_cases h2 : n < y <;> simp [h1, h2] at h ⊢ <;> omega
   ·simp at h ⊢; omega
theorem mem_putIR (n : Int) : ∀ l t y, y ∈ putIR n l t ↔ (t = false ∧ y = n) ∨ y ∈ l
 | [], t, y => by cases t <;> simp [putIR]
 | z :: l, t, y => by
   have ih := mem_putIR n l (t || decide (n ≤ z)) y
   simp only [putIR, List.mem_append, List.mem_cons, ih]
   by_cases h1 : n ≤ z
   ·by_cases h2 : n < z
    ·cases t <;> simp [h1, h2] <;> grind
    ·have : n = z := by omega
     subst this
     cases t <;> simp <;> grind
   ·cases t <;> simp [h1] <;> grind
theorem mem_putI {l : List Int} {n y : Int} : y ∈ putI l n ↔ y = n ∨ y ∈ l := by rw [putI, mem_putIR]; simp
theorem putIR_rises (n : Int) : ∀ l t, irises l → (t = true → ∀ y ∈ l, n < y) → irises (putIR n l t)
 | [], t, _, _ => by
   cases t
   ·exact List.pairwise_singleton _ _
   ·exact List.Pairwise.nil
 | z :: l, t, hl, ht => by
   obtain ⟨h1, h2⟩ := List.pairwise_cons.1 hl
   cases t
   ·by_cases h3 : n ≤ z
    ·have ih := putIR_rises n l true h2 (fun _ y hy => by have := h1 y hy; omega)
     have hz : irises (z :: putIR n l true) := List.pairwise_cons.2 ⟨fun y hy => by
      rcases (mem_putIR n l true y).1 hy with ⟨h, _⟩ | hy
      ·cases h
      ·exact h1 y hy, ih⟩
     simp only [putIR, Bool.false_or, decide_eq_true h3]
     by_cases h4 : n < z
     ·rw [if_pos (by simp [h3, h4])]
      refine List.pairwise_cons.2 ⟨fun y hy => ?_, hz⟩
      rcases List.mem_cons.1 hy with rfl | hy
      ·exact h4
      ·rcases (mem_putIR n l true y).1 hy with ⟨h, _⟩ | hy
       ·cases h
       ·have := h1 y hy; omega
     ·rw [if_neg (fun h => h4 h.2.2)]; exact hz
    ·have ih := putIR_rises n l false h2 (fun h => by cases h)
     simp only [putIR, Bool.false_or, decide_eq_false h3]
     rw [if_neg (fun h => h3 h.2.1)]
     refine List.pairwise_cons.2 ⟨fun y hy => ?_, ih⟩
     rcases (mem_putIR n l false y).1 hy with ⟨_, rfl⟩ | hy
     ·omega
     ·exact h1 y hy
   ·have hx := ht rfl z (List.mem_cons_self)
    have ih := putIR_rises n l true h2 (fun _ y hy => ht rfl y (List.mem_cons_of_mem _ hy))
    simp only [putIR, Bool.true_or]
    rw [if_neg (fun h => by cases h.1)]
    refine List.pairwise_cons.2 ⟨fun y hy => ?_, ih⟩
    rcases (mem_putIR n l true y).1 hy with ⟨h, _⟩ | hy
    ·cases h
    ·exact h1 y hy
theorem putI_rises {l : List Int} (h : irises l) (n : Int) : irises (putI l n) := putIR_rises n l false h (fun h => by cases h)
theorem irises_ext {l m : List Int} (hl : irises l) (hm : irises m) (hmem : ∀ x, x ∈ l ↔ x ∈ m) : l = m := by
 induction l generalizing m with
 | nil => cases m with
   | nil => rfl
   | cons y m => have := (hmem y).2 List.mem_cons_self; cases this
 | cons x l ih => cases m with
   | nil => have := (hmem x).1 List.mem_cons_self; cases this
   | cons y m =>
     obtain ⟨a1, a2⟩ := List.pairwise_cons.1 hl
     obtain ⟨b1, b2⟩ := List.pairwise_cons.1 hm
     have hxy : x = y := by
      rcases List.mem_cons.1 ((hmem x).1 List.mem_cons_self) with e | hx
      ·exact e
      ·rcases List.mem_cons.1 ((hmem y).2 List.mem_cons_self) with e | hy
       ·exact e.symm
       ·have h1 := b1 x hx; have h2 := a1 y hy; omega
     subst hxy
     congr 1
     refine ih a2 b2 fun z => ⟨fun hz => ?_, fun hz => ?_⟩
     ·rcases List.mem_cons.1 ((hmem z).1 (List.mem_cons_of_mem _ hz)) with e | h
      ·subst e; have := a1 _ hz; omega
      ·exact h
     ·rcases List.mem_cons.1 ((hmem z).2 (List.mem_cons_of_mem _ hz)) with e | h
      ·subst e; have := b1 _ hz; omega
      ·exact h
theorem irises_len {l m : List Int} (h : irises l) (hm : ∀ i ∈ l, i ∈ m) : l.length ≤ m.length := by
 induction l generalizing m with
 | nil => simp
 | cons a l ih =>
   obtain ⟨h1, h2⟩ := List.pairwise_cons.1 h
   have ha := hm a List.mem_cons_self
   have := ih (m := m.erase a) h2 fun i hi => (List.mem_erase_of_ne (by have := h1 i hi; omega)).2 (hm i (List.mem_cons_of_mem _ hi))
   rw [List.length_erase_of_mem ha] at this
   have hp := List.length_pos_of_mem ha
   simp only [List.length_cons]
   omega
theorem putI_drop {L : List Int} {k : Nat} (h : k < L.length) (n : Int) (t : Bool) : putIR n (L.drop k) t =
 (if t = false ∧ n ≤ L.getD k 0 ∧ n < L.getD k 0 then [n] else []) ++ (L.getD k 0 :: putIR n (L.drop (k + 1)) (t || decide (n ≤ L.getD k 0))) := by
 rw [List.drop_eq_getElem_cons h, List.getD_eq_getElem?_getD, List.getElem?_eq_getElem h]
 rfl
end Go.Proofs.YtpfbfhigelbfcaaGreat
namespace Go.Proofs.YtpfbfhigelbfcaaGreat
theorem list32S {l : List Int} (h : l.length = 32) : l = [l.getD 0 0, l.getD 1 0, l.getD 2 0, l.getD 3 0, l.getD 4 0, l.getD 5 0, l.getD 6 0, l.getD 7 0, l.getD 8 0, l.getD 9 0, l.getD 10 0, l.getD 11 0, l.getD 12 0, l.getD 13 0, l.getD 14 0, l.getD 15 0, l.getD 16 0, l.getD 17 0, l.getD 18 0, l.getD 19 0, l.getD 20 0, l.getD 21 0, l.getD 22 0, l.getD 23 0, l.getD 24 0, l.getD 25 0, l.getD 26 0, l.getD 27 0, l.getD 28 0, l.getD 29 0, l.getD 30 0, l.getD 31 0] := by
 have e : l = (List.range 32).map (fun i => l.getD i 0) := by
  refine List.ext_getElem (by simp [h]) fun i h1 h2 => ?_
  simp [List.getD_eq_getElem?_getD, List.getElem?_eq_getElem h1]
 exact e
end Go.Proofs.YtpfbfhigelbfcaaGreat
namespace Go.Proofs.YtpfbfhigelbfcaaGreat
open Go.RowKit Go.Lib
/-- blocks of S may turn, and new ones come -/
structure Chg (S : Nat → Prop) (w w' : World) : Prop where
 os : w'.os = w.os
 tape : w'.tape = w.tape
 output : w'.output = w.output
 size : w.heap.size ≤ w'.heap.size
 block : ∀ k, k < w.heap.size → ¬ S k → w'.heap[k]? = w.heap[k]?
theorem Chg.below {S : Nat → Prop} {w w' : World} {B : Nat} (h : Chg S w w') (hS : ∀ b, S b → B ≤ b) (hB : B ≤ w.heap.size) : Below B w w' :=
 ⟨h.os, h.tape, h.output, h.size, fun k hk => h.block k (Nat.lt_of_lt_of_le hk hB) fun hs => absurd (hS k hs) (Nat.not_le.2 hk)⟩
theorem Below.chg {S : Nat → Prop} {w w' : World} (h : Below w.heap.size w w') : Chg S w w' := ⟨h.os, h.tape, h.output, h.size, fun k hk _ => h.block k hk⟩
theorem Chg.refl (S : Nat → Prop) (w : World) : Chg S w w := ⟨rfl, rfl, rfl, Nat.le_refl _, fun _ _ _ => rfl⟩
theorem Chg.tr {S S' : Nat → Prop} {w w1 w2 : World} (h1 : Chg S w w1) (h2 : Chg S' w1 w2) (hs : ∀ b, S' b → S b ∨ w.heap.size ≤ b) : Chg S w w2 :=
 ⟨h2.os.trans h1.os, h2.tape.trans h1.tape, h2.output.trans h1.output, Nat.le_trans h1.size h2.size, fun k hk hn => (h2.block k (Nat.lt_of_lt_of_le hk h1.size) fun e => (hs k e).elim hn fun e2 => absurd hk (Nat.not_lt.2 e2)).trans (h1.block k hk hn)⟩
theorem Chg.of_below {S : Nat → Prop} {w w' : World} (h : Below w.heap.size w w') : Chg S w w' := ⟨h.os, h.tape, h.output, h.size, fun k hk _ => h.block k hk⟩
end Go.Proofs.YtpfbfhigelbfcaaGreat
namespace Go.Proofs.YtpfbfhigelbfcaaGreat
theorem sum_max {α : Type} (f g : α → Nat) (hg : ∀ x, f x + 1 ≤ g x) (L : List α) : ∃ K, (∀ x ∈ L, f x ≤ K) ∧ L.length + K ≤ (L.map g).sum := by
 induction L with
 | nil => exact ⟨0, (fun x h => by cases h), by simp⟩
 | cons x L ih =>
   obtain ⟨K, h1, h2⟩ := ih
   have h3 := hg x
   refine ⟨f x + K, fun y hy => ?_, by simp only [List.map_cons, List.sum_cons, List.length_cons]; omega⟩
   rcases List.mem_cons.1 hy with rfl | hy
   ·omega
   ·have := h1 y hy
    omega
end Go.Proofs.YtpfbfhigelbfcaaGreat

