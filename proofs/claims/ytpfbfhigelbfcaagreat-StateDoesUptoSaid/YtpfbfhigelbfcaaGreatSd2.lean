/- Byte slices that a call makes: make, copy, append; Digests on plain lists: their order, and rows that rise; Strings as lists of numbers; The order of names (cut out of FolP); A literal of a struct or an array whose cells are known -/
import Derived.Test.YtpfbfhigelbfcaaGreatSd1
import Derived.Laws.CopyOwn
import Derived.Laws.AppendOwnNone
import Derived.Laws.MakeOwn
import Derived.Lib.AppendStr
import Derived.Maps.AppendAt
set_option linter.unusedSimpArgs false
set_option linter.unusedVariables false
namespace Go.Proofs.YtpfbfhigelbfcaaGreat
open Go.RowKit Go.Lib
/-- A row of the call's own from block B on, whose first cells are these bytes. -/
def Ob (w : World) (B : Nat) (e : TypeId) (v : Value) (zs : List Int) : Prop :=
 (∀ j, 0 ≤ zs.getD j 0 ∧ zs.getD j 0 < 256) ∧ w.ownsRow B e 1 v zs.length (zs.map (Value.int .u8))
theorem Ob.open {w : World} {B : Nat} {e : TypeId} {v : Value} {zs : List Int} (h : Ob w B e v zs) :
 ∃ p cap, v = .slice p zs.length cap ∧ zs.length ≤ cap ∧ cap ≤ maxLen ∧ Bs w p zs.length zs ∧ (p = none → cap = 0) := by
 obtain ⟨h1, hl, h2⟩ := h
 rcases h2 with ⟨rfl, h0⟩ | ⟨g, cap, cur, rfl, hB, hg, hn, hm, hs, ht⟩
 ·refine ⟨none, 0, by rw [h0], by omega, by simp, ⟨rfl, h1, Or.inl h0⟩, fun _ => rfl⟩
 ·refine ⟨_, cap, rfl, hn, hm, ⟨rfl, h1, Or.inr ⟨g, 0, rfl, fun j hj => ?_⟩⟩, by simp⟩
  have ho : w.ownsRow B e 1 (.slice (some ⟨g, 0, none⟩) zs.length cap) zs.length (zs.map (Value.int .u8)) := ⟨hl, Or.inr ⟨g, cap, cur, rfl, hB, hg, hn, hm, hs, ht⟩⟩
  rw [Nat.zero_add, ho.cellAt j (by omega)]
  simp [List.getD_eq_getElem?_getD, hj]
theorem Ob.nil (w : World) (B : Nat) (e : TypeId) : Ob w B e (.slice none 0 0) [] := ⟨fun j => by simp, World.ownsRow_nil w B e 1⟩
theorem Ob.mono {w : World} {B B' : Nat} {e : TypeId} {v : Value} {zs : List Int} (h : Ob w B e v zs) (hB : B' ≤ B) : Ob w B' e v zs := by
 obtain ⟨h1, hl, h2⟩ := h
 refine ⟨h1, hl, ?_⟩
 rcases h2 with h2 | ⟨g, cap, cur, hv, hb, r⟩
 ·exact Or.inl h2
 ·exact Or.inr ⟨g, cap, cur, hv, by omega, r⟩
theorem Ob.later {w w' : World} {B : Nat} {e : TypeId} {v : Value} {zs : List Int} (h : Ob w B e v zs) (hb : Below w.heap.size w w') : Ob w' B e v zs := by
 obtain ⟨h1, hl, h2⟩ := h
 refine ⟨h1, hl, ?_⟩
 rcases h2 with h2 | ⟨g, cap, cur, hv, hB, hg, r⟩
 ·exact Or.inl h2
 ·have hlt : g < w.heap.size := by
   rcases Nat.lt_or_ge g w.heap.size with h | h
   ·exact h
   ·rw [Array.getElem?_eq_none h] at hg; cases hg
  exact Or.inr ⟨g, cap, cur, hv, hB, by rw [hb.block g hlt]; exact hg, r⟩
theorem below_step {w W w1 : World} (h0 : Below w.heap.size w W) (h1 : Below W.heap.size W w1) : Below w.heap.size w w1 := h0.trans (h1.mono h0.size)
theorem below_none {w w' : World} (h : w.grownBy w' none) : Below w.heap.size w w' := (Below.refl _ _).grown h (Nat.le_refl _) (by simp)
theorem bytes_replicate (n : Nat) : ∀ j, 0 ≤ (List.replicate n (0 : Int)).getD j 0 ∧ (List.replicate n (0 : Int)).getD j 0 < 256 := by
 intro j
 simp only [List.getD_eq_getElem?_getD, List.getElem?_replicate]
 split <;> simp
theorem Ob.alloc {w : World} {B : Nat} {e : TypeId} {v : Value} {zs : List Int} (h : Ob w B e v zs) (o : Obj) : Ob (w.alloc o) B e v zs := h.later ((Below.refl _ _).alloc (Nat.le_refl _) _)
/-- A byte of a row of the call's own, written. -/
theorem Ob.set {w : World} {B g n cap : Nat} {e : TypeId} {zs : List Int} (h : Ob w B e (.slice (some ⟨g, 0, none⟩) n cap) zs) (j : Nat) (hj : j < n) (x : Int) (h0 : 0 ≤ x) (h1 : x < 256) :
 Ob (w.setCell ⟨g, j, none⟩ (.int .u8 x)) B e (.slice (some ⟨g, 0, none⟩) n cap) (zs.set j x) := by
 obtain ⟨hb, hl, h2⟩ := h
 refine ⟨fun i => ?_, by simp, ?_⟩
 ·rw [List.getD_eq_getElem?_getD, List.getElem?_set]
  by_cases hij : j = i
  ·rw [if_pos hij]
   split
   ·exact ⟨h0, h1⟩
   ·simp
  ·rw [if_neg hij, ← List.getD_eq_getElem?_getD]
   exact hb i
 ·rcases h2 with ⟨h3, _⟩ | ⟨g', cap', cur, hv, hB, hg, hn, hm, hs, ht⟩
  ·cases h3
  ·right
   simp only [Value.slice.injEq, Option.some.injEq, Addr.mk.injEq, and_true] at hv
   obtain ⟨rfl, hnl, rfl⟩ := hv
   refine ⟨g, cap, cur.setIfInBounds j (.int .u8 x), by simp [hnl], hB, ?_, by simpa using hn, hm, by simpa using hs, ?_⟩
   ·simp [World.setCell, Array.getElem?_modify, hg]
   ·simp only [Nat.mul_one, List.length_set] at ht ⊢
    rw [Array.toList_setIfInBounds, List.take_set, ht, List.map_set]
/-- .. and read. -/
theorem Ob.cell {w : World} {B g n cap : Nat} {e : TypeId} {zs : List Int} (h : Ob w B e (.slice (some ⟨g, 0, none⟩) n cap) zs) (j : Nat) (hj : j < n) : w.cell? ⟨g, j, none⟩ = some (.int .u8 (zs.getD j 0)) ∧ w.frozen? ⟨g, j, none⟩ = false := by
 obtain ⟨hb, hl, h2⟩ := h
 rcases h2 with ⟨h3, _⟩ | ⟨g', cap', cur, hv, hB, hg, hn, hm, hs, ht⟩
 ·cases h3
 ·have hv' := hv
  simp only [Value.slice.injEq, Option.some.injEq, Addr.mk.injEq, and_true] at hv'
  obtain ⟨rfl, hnl, rfl⟩ := hv'
  refine ⟨?_, by simp [World.frozen?, hg]⟩
  have ho : w.ownsRow B e 1 (.slice (some ⟨g, 0, none⟩) zs.length cap) zs.length (zs.map (Value.int .u8)) := ⟨hl, Or.inr ⟨g, cap, cur, rfl, hB, hg, hn, hm, hs, ht⟩⟩
  rw [ho.cellAt j (by omega)]
  have : j < zs.length := by omega
  simp [List.getD_eq_getElem?_getD, this]
theorem Ob.ptr {w : World} {B n cap : Nat} {p : Option Addr} {e : TypeId} {zs : List Int} (h : Ob w B e (.slice p n cap) zs) (hn : 0 < n) : ∃ g, p = some ⟨g, 0, none⟩ := by
 rcases h.2.2 with ⟨hv, h0⟩ | ⟨g, cap', cur, hv, _⟩
 ·simp only [Value.slice.injEq] at hv; omega
 ·simp only [Value.slice.injEq] at hv; exact ⟨g, hv.1⟩
variable {P : Program}
end Go.Proofs.YtpfbfhigelbfcaaGreat
namespace Go.Proofs.YtpfbfhigelbfcaaGreat
/-- ahead of -/
def dlt : List Int → List Int → Bool
 | x :: xs, y :: ys => if x = y then dlt xs ys else decide (x < y)
 | _, _ => false
theorem dlt_self (a : List Int) : dlt a a = false := by
 induction a with
 | nil => rfl
 | cons x xs ih => simp [dlt, ih]
theorem dlt_at {a b : List Int} {k : Nat} (h : a.take k = b.take k) (ha : k < a.length) (hb : k < b.length) (hne : a.getD k 0 ≠ b.getD k 0) : dlt a b = decide (a.getD k 0 < b.getD k 0) := by
 induction k generalizing a b with
 | zero =>
   cases a with
   | nil => simp at ha
   | cons x xs => cases b with
     | nil => simp at hb
     | cons y ys =>
       simp only [List.getD_cons_zero] at hne ⊢
       simp [dlt, hne]
 | succ k ih =>
   cases a with
   | nil => simp at ha
   | cons x xs => cases b with
     | nil => simp at hb
     | cons y ys =>
       simp only [List.take_succ_cons, List.cons.injEq] at h
       simp only [List.getD_cons_succ] at hne ⊢
       rw [dlt, if_pos h.1]
       exact ih h.2 (by simpa using ha) (by simpa using hb) hne
theorem dlt_trans {a b c : List Int} (h1 : dlt a b = true) (h2 : dlt b c = true) : dlt a c = true := by
 induction a generalizing b c with
 | nil => simp [dlt] at h1
 | cons x xs ih => cases b with
   | nil => simp [dlt] at h1
   | cons y ys => cases c with
     | nil => simp [dlt] at h2
     | cons z zs =>
       simp only [dlt] at h1 h2 ⊢
       split at h1 <;> split at h2 <;> split <;> simp_all
       ·exact ih h1 h2
       ·omega
       ·omega
theorem dlt_asymm {a b : List Int} (h : dlt a b = true) : dlt b a = false := by
 cases e : dlt b a
 ·rfl
 ·have := dlt_trans h e
  rw [dlt_self] at this
  cases this
theorem dlt_total {a b : List Int} (hl : a.length = b.length) (h1 : dlt a b = false) (h2 : dlt b a = false) : a = b := by
 induction a generalizing b with
 | nil => cases b with
   | nil => rfl
   | cons => simp at hl
 | cons x xs ih => cases b with
   | nil => simp at hl
   | cons y ys =>
     simp only [dlt] at h1 h2
     by_cases e : x = y
     ·subst e
      simp only [if_true] at h1 h2
      rw [ih (by simpa using hl) h1 h2]
     ·rw [if_neg e] at h1
      rw [if_neg (fun h => e h.symm)] at h2
      simp at h1 h2
      omega
/-- each ahead of all behind it -/
def drises : List (List Int) → Prop
 | [] => True
 | d :: L => (∀ x ∈ L, dlt d x = true) ∧ drises L
/-- put in its place, once -/
def dput (L : List (List Int)) (d : List Int) : List (List Int) :=
 match L with
 | [] => [d]
 | x :: xs => if dlt x d = true then x :: dput xs d else if x = d then x :: xs else d :: x :: xs
def drow (l : List (List Int)) : List (List Int) := l.foldl dput []
theorem dput_mem (L : List (List Int)) (d x : List Int) : x ∈ dput L d ↔ x ∈ L ∨ x = d := by
 induction L with
 | nil => simp [dput]
 | cons y ys ih =>
   rw [dput]
   split
   ·simp only [List.mem_cons, ih, or_assoc]
   ·split
    ·rename_i h; subst h
     simp only [List.mem_cons]
     exact ⟨fun h => Or.inl h, fun h => h.elim id Or.inl⟩
    ·simp only [List.mem_cons]
     exact ⟨fun h => by rcases h with h | h | h <;> simp [h], fun h => by rcases h with (h | h) | h <;> simp [h]⟩
theorem dput_rises {n : Nat} {L : List (List Int)} {d : List Int} (hL : ∀ x ∈ L, x.length = n) (hd : d.length = n) (h : drises L) : drises (dput L d) := by
 induction L with
 | nil => simp [dput, drises]
 | cons y ys ih =>
   obtain ⟨h1, h2⟩ := h
   rw [dput]
   split
   ·rename_i hyd
    refine ⟨fun x hx => ?_, ih (fun x hx => hL x (by simp [hx])) h2⟩
    rcases (dput_mem _ _ _).1 hx with hx | rfl
    ·exact h1 x hx
    ·exact hyd
   ·rename_i hyd
    split
    ·exact ⟨h1, h2⟩
    ·rename_i hne
     have hdy : dlt d y = true := by
      cases e : dlt d y
      ·exact absurd (dlt_total ((hL y (by simp)).trans hd.symm) (by simpa using hyd) e) hne
      ·rfl
     refine ⟨fun x hx => ?_, h1, h2⟩
     rcases List.mem_cons.1 hx with rfl | hx
     ·exact hdy
     ·exact dlt_trans hdy (h1 x hx)
/-- rising rows of the same digests are the same -/
theorem drises_ext {A B : List (List Int)} (hA : drises A) (hB : drises B) (h : ∀ x, x ∈ A ↔ x ∈ B) : A = B := by
 induction A generalizing B with
 | nil => cases B with
   | nil => rfl
   | cons b B => exact absurd ((h b).2 (by simp)) (by simp)
 | cons a A ih => cases B with
   | nil => exact absurd ((h a).1 (by simp)) (by simp)
   | cons b B =>
     have hab : a = b := by
      rcases List.mem_cons.1 ((h a).1 (by simp)) with e | e
      ·exact e
      ·rcases List.mem_cons.1 ((h b).2 (by simp)) with e' | e'
       ·exact e'.symm
       ·have h1 := hA.1 b e'
        have h2 := hB.1 a e
        rw [dlt_asymm h1] at h2
        cases h2
     subst hab
     congr 1
     refine ih hA.2 hB.2 fun x => ?_
     constructor
     ·intro hx
      rcases List.mem_cons.1 ((h x).1 (by simp [hx])) with e | e
      ·subst e; have := hA.1 x hx; rw [dlt_self] at this; cases this
      ·exact e
     ·intro hx
      rcases List.mem_cons.1 ((h x).2 (by simp [hx])) with e | e
      ·subst e; have := hB.1 x hx; rw [dlt_self] at this; cases this
      ·exact e
theorem foldl_dput_mem (l L : List (List Int)) (x : List Int) : x ∈ l.foldl dput L ↔ x ∈ L ∨ x ∈ l := by
 induction l generalizing L with
 | nil => simp
 | cons d l ih =>
   rw [List.foldl_cons, ih, dput_mem]
   simp only [List.mem_cons, or_assoc]
theorem drow_mem (l : List (List Int)) (x : List Int) : x ∈ drow l ↔ x ∈ l := by
 unfold drow; rw [foldl_dput_mem]; simp
theorem foldl_dput_rises {n : Nat} {l L : List (List Int)} (hl : ∀ x ∈ l, x.length = n) (hL : ∀ x ∈ L, x.length = n) (h : drises L) : drises (l.foldl dput L) := by
 induction l generalizing L with
 | nil => exact h
 | cons d l ih =>
   rw [List.foldl_cons]
   refine ih (fun x hx => hl x (by simp [hx])) (fun x hx => ?_) (dput_rises hL (hl d (by simp)) h)
   rcases (dput_mem _ _ _).1 hx with hx | rfl
   ·exact hL x hx
   ·exact hl x (by simp)
theorem drow_rises {n : Nat} {l : List (List Int)} (h : ∀ x ∈ l, x.length = n) : drises (drow l) := foldl_dput_rises h (by simp) trivial
/-- what another's row is: rising, and of the same digests -/
theorem drow_is {n : Nat} {l R : List (List Int)} (hl : ∀ x ∈ l, x.length = n) (hR : drises R) (h : ∀ x, x ∈ R ↔ x ∈ l) : R = drow l :=
 drises_ext hR (drow_rises hl) fun x => by rw [h, drow_mem]
end Go.Proofs.YtpfbfhigelbfcaaGreat
namespace Go.Proofs.YtpfbfhigelbfcaaGreat
open Go.RowKit Go.Lib
theorem bytes_loop (s : ByteArray) : ∀ (n i : Nat) (r : List UInt8), s.size - i = n → ByteArray.toList.loop s i r = r.reverse ++ s.data.toList.drop i := by
 intro n
 induction n with
 | zero =>
   intro i r h
   unfold ByteArray.toList.loop
   have hs : s.data.toList.length = s.size := by simp
   rw [if_neg (by omega), List.drop_of_length_le (by omega), List.append_nil]
 | succ n ih =>
   intro i r h
   unfold ByteArray.toList.loop
   have hs : s.data.toList.length = s.size := by simp
   have hi : i < s.data.toList.length := by omega
   rw [if_pos (by omega), ih (i + 1) _ (by omega), List.reverse_cons, List.append_assoc, List.drop_eq_getElem_cons hi]
   congr 1
   have : s.get! i = s.data.toList[i] := by
    simp only [ByteArray.get!, Array.getElem_toList]
    exact getElem!_pos s.data i (by simpa using hi)
   rw [this]; rfl
theorem bytes_toList (s : ByteArray) : s.toList = s.data.toList := by
 unfold ByteArray.toList
 rw [bytes_loop s _ 0 [] rfl]
 simp
end Go.Proofs.YtpfbfhigelbfcaaGreat
namespace Go.Proofs.YtpfbfhigelbfcaaGreat
/-! ### the order of names, as a walk spells it -/
theorem ba_ext {a b : ByteArray} (h : a.toList = b.toList) : a = b := by
 rw [bytes_toList, bytes_toList] at h
 exact ByteArray.ext (Array.toList_inj.1 h)
theorem sq_iff {a b : ByteArray} : (a.toList == b.toList) = true ↔ a = b := by
 rw [beq_iff_eq]
 exact ⟨ba_ext, fun h => by rw [h]⟩
theorem sq_true {a b : ByteArray} (h : a = b) : (a.toList == b.toList) = true := sq_iff.2 h
theorem sq_false {a b : ByteArray} (h : a ≠ b) : (a.toList == b.toList) = false := by
 cases e : (a.toList == b.toList)
 ·rfl
 ·exact absurd (sq_iff.1 e) h
theorem less_iff : ∀ (x y : List UInt8), Op.bytesLess x y = true ↔ x < y
 | [], [] => by simp [Op.bytesLess]
 | _ :: _, [] => by simp [Op.bytesLess]
 | [], _ :: _ => by simp [Op.bytesLess]
 | a :: x, b :: y => by
   rw [Op.bytesLess, List.cons_lt_cons_iff, Bool.or_eq_true, Bool.and_eq_true, beq_iff_eq, less_iff x y, decide_eq_true_iff]
/-- a name before another one -/
def slt (a b : ByteArray) : Prop := a.toList < b.toList
theorem slt_irrefl (a : ByteArray) : ¬ slt a a := List.lt_irrefl _
theorem slt_trans {a b c : ByteArray} (h1 : slt a b) (h2 : slt b c) : slt a c := List.lt_trans h1 h2
theorem slt_asymm {a b : ByteArray} (h1 : slt a b) (h2 : slt b a) : False := slt_irrefl _ (slt_trans h1 h2)
theorem slt_total {a b : ByteArray} (h1 : ¬ slt a b) (h2 : a ≠ b) : slt b a := by
 have h3 : b.toList ≤ a.toList := List.not_lt.1 h1
 apply Classical.byContradiction
 intro h4
 have h5 : a.toList ≤ b.toList := List.not_lt.1 h4
 exact h2 (ba_ext (List.le_antisymm h5 h3))
end Go.Proofs.YtpfbfhigelbfcaaGreat
namespace Go.Proofs.YtpfbfhigelbfcaaGreat
open Go.RowKit Go.Lib
theorem wpList_build_is {P : Program} {ops : Array Oper} {rest : List Oper} {o : Oper} {a : Act} {w : World} {Q : Exit → Act → World → Prop} (hg : o.guard = none) (t : TypeId) (parts : Array (Nat × Operand)) (ho : o.op = .build t parts) (cells : Array Value)
 (hf : P.built t (parts.map fun (i, x) => (i, a.eval x)).toList = some cells)
 (h : wpList P ops Q rest (a.put o.dst (.agg cells)) w) : wpList P ops Q (o :: rest) a w :=
 wpList_build hg t parts ho (by rw [hf]; rfl) (by rw [hf]; exact h)
end Go.Proofs.YtpfbfhigelbfcaaGreat

