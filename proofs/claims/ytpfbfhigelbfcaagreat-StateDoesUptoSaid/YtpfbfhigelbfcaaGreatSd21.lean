/- The stable order, plainly: rows of things with a key; what a stable sort and a merge come to -/
import Derived.Sort.Defs
set_option linter.unusedSimpArgs false
set_option linter.unusedVariables false
namespace Go.Proofs.YtpfbfhigelbfcaaGreat
section
variable {α : Type} (key : α → Int)
/-- in its place by the key, behind those of the same -/
def putK (x : α) : List α → List α
 | [] => [x]
 | y :: M => if key x < key y then x :: y :: M else y :: putK x M
def sortK (l : List α) : List α := l.foldl (fun o x => putK key x o) []
def Srt (l : List α) : Prop := l.Pairwise fun a b => key a ≤ key b
def Eqv (l m : List α) : Prop := ∀ c : Int, l.filter (fun x => decide (key x = c)) = m.filter (fun x => decide (key x = c))
variable {key}
theorem Eqv.refl (l : List α) : Eqv key l l := fun _ => rfl
theorem Eqv.symm {l m : List α} (h : Eqv key l m) : Eqv key m l := fun c => (h c).symm
theorem Eqv.trans {l m r : List α} (h : Eqv key l m) (h2 : Eqv key m r) : Eqv key l r := fun c => (h c).trans (h2 c)
theorem Eqv.app {l m r s : List α} (h : Eqv key l m) (h2 : Eqv key r s) : Eqv key (l ++ r) (m ++ s) := fun c => by rw [List.filter_append, List.filter_append, h c, h2 c]
theorem Eqv.swap {l m : List α} (h : ∀ x ∈ l, ∀ y ∈ m, key x ≠ key y) : Eqv key (l ++ m) (m ++ l) := fun c => by
 rw [List.filter_append, List.filter_append]
 by_cases hx : ∃ x ∈ l, key x = c
 ·obtain ⟨x, hx, rfl⟩ := hx
  have : m.filter (fun y => decide (key y = key x)) = [] := List.filter_eq_nil_iff.2 fun y hy => by
   have := h x hx y hy
   simp; omega
  rw [this]; simp
 ·have : l.filter (fun y => decide (key y = c)) = [] := List.filter_eq_nil_iff.2 fun y hy => by
   simp; exact fun e => hx ⟨y, hy, e⟩
  rw [this]; simp
theorem Eqv.mem {l m : List α} (h : Eqv key l m) (x : α) : x ∈ l ↔ x ∈ m := by
 have := h (key x)
 constructor
 ·intro hx
  have hx2 : x ∈ l.filter fun y => decide (key y = key x) := List.mem_filter.2 ⟨hx, by simp⟩
  rw [this] at hx2
  exact (List.mem_filter.1 hx2).1
 ·intro hx
  have hx2 : x ∈ m.filter fun y => decide (key y = key x) := List.mem_filter.2 ⟨hx, by simp⟩
  rw [← this] at hx2
  exact (List.mem_filter.1 hx2).1
theorem mem_putK {x : α} : ∀ {l : List α} {y : α}, y ∈ putK key x l ↔ y = x ∨ y ∈ l
 | [], y => by simp [putK]
 | z :: M, y => by
   unfold putK
   split
   ·simp
   ·simp only [List.mem_cons, mem_putK (l := M)]
    constructor
    ·rintro (h | h | h)
     ·exact Or.inr (Or.inl h)
     ·exact Or.inl h
     ·exact Or.inr (Or.inr h)
    ·rintro (h | h | h)
     ·exact Or.inr (Or.inl h)
     ·exact Or.inl h
     ·exact Or.inr (Or.inr h)
theorem putK_length (x : α) : ∀ l : List α, (putK key x l).length = l.length + 1
 | [] => rfl
 | y :: M => by
   unfold putK
   split
   ·rfl
   ·rw [List.length_cons, putK_length x M, List.length_cons]
theorem putK_srt {x : α} : ∀ {l : List α}, Srt key l → Srt key (putK key x l)
 | [], _ => List.pairwise_singleton _ _
 | y :: M, h => by
   obtain ⟨h1, h2⟩ := List.pairwise_cons.1 h
   unfold putK
   split
   ·rename_i hlt
    refine List.pairwise_cons.2 ⟨fun z hz => ?_, h⟩
    rcases List.mem_cons.1 hz with rfl | hz
    ·omega
    ·have := h1 z hz; omega
   ·rename_i hlt
    refine List.pairwise_cons.2 ⟨fun z hz => ?_, putK_srt h2⟩
    rcases mem_putK.1 hz with rfl | hz
    ·omega
    ·exact h1 z hz
theorem putK_eqv {x : α} : ∀ {l : List α}, Srt key l → Eqv key (putK key x l) (l ++ [x])
 | [], _ => Eqv.refl _
 | y :: M, h => by
   obtain ⟨h1, h2⟩ := List.pairwise_cons.1 h
   unfold putK
   split
   ·rename_i hlt
    refine Eqv.swap (l := [x]) (m := y :: M) fun a ha b hb => ?_
    rw [List.mem_singleton.1 ha]
    rcases List.mem_cons.1 hb with rfl | hb
    ·omega
    ·have := h1 b hb; omega
   ·exact Eqv.app (Eqv.refl [y]) (putK_eqv h2)
theorem foldK_both : ∀ (l : List α) {o : List α}, Srt key o → Srt key (l.foldl (fun o x => putK key x o) o) ∧ Eqv key (l.foldl (fun o x => putK key x o) o) (o ++ l)
 | [], o, h => ⟨h, by rw [List.append_nil]; exact Eqv.refl _⟩
 | x :: l, o, h => by
   obtain ⟨h1, h2⟩ := foldK_both l (putK_srt (x := x) h)
   refine ⟨h1, h2.trans ?_⟩
   rw [show o ++ x :: l = (o ++ [x]) ++ l by simp]
   exact (putK_eqv h).app (Eqv.refl _)
theorem sortK_srt (l : List α) : Srt key (sortK key l) := (foldK_both l List.Pairwise.nil).1
theorem sortK_eqv (l : List α) : Eqv key (sortK key l) l := (foldK_both l List.Pairwise.nil).2
theorem foldK_length : ∀ (l o : List α), (l.foldl (fun o x => putK key x o) o).length = o.length + l.length
 | [], o => by simp
 | x :: l, o => by rw [List.foldl_cons, foldK_length l, putK_length, List.length_cons]; omega
theorem sortK_length (l : List α) : (sortK key l).length = l.length := by unfold sortK; rw [foldK_length]; simp
theorem srt_uniq : ∀ {l m : List α}, Srt key l → Srt key m → Eqv key l m → l = m
 | [], m, _, _, h => by
   cases m with
   | nil => rfl
   | cons y M => exact absurd ((h.mem y).2 List.mem_cons_self) (by simp)
 | x :: l, m, h1, h2, h => by
   cases m with
   | nil => exact absurd ((h.mem x).1 List.mem_cons_self) (by simp)
   | cons y M =>
     obtain ⟨a1, a2⟩ := List.pairwise_cons.1 h1
     obtain ⟨b1, b2⟩ := List.pairwise_cons.1 h2
     have e1 : key x ≤ key y := by
      rcases List.mem_cons.1 ((h.mem y).2 List.mem_cons_self) with e | hm
      ·rw [e]; exact Int.le_refl _
      ·exact a1 y hm
     have e2 : key y ≤ key x := by
      rcases List.mem_cons.1 ((h.mem x).1 List.mem_cons_self) with e | hm
      ·rw [e]; exact Int.le_refl _
      ·exact b1 x hm
     have hxy : key x = key y := by omega
     have hx := h (key x)
     rw [List.filter_cons_of_pos (by simp), List.filter_cons_of_pos (by simp [hxy])] at hx
     obtain ⟨rfl, _⟩ := List.cons.inj hx
     rw [srt_uniq a2 b2 fun c => ?_]
     have hc := h c
     by_cases e : key x = c
     ·rw [List.filter_cons_of_pos (by simp [e]), List.filter_cons_of_pos (by simp [e])] at hc
      exact (List.cons.inj hc).2
     ·rw [List.filter_cons_of_neg (by simp [e]), List.filter_cons_of_neg (by simp [e])] at hc
      exact hc
theorem sortK_of {l m : List α} (h : Srt key m) (he : Eqv key m l) : m = sortK key l := srt_uniq h (sortK_srt l) (he.trans (sortK_eqv l).symm)
theorem sortK_self {l : List α} (h : Srt key l) : sortK key l = l := (sortK_of h (Eqv.refl _)).symm
theorem Srt.app {l m : List α} (h1 : Srt key l) (h2 : Srt key m) (h : ∀ x ∈ l, ∀ y ∈ m, key x ≤ key y) : Srt key (l ++ m) := List.pairwise_append.2 ⟨h1, h2, h⟩
theorem Srt.left {l m : List α} (h : Srt key (l ++ m)) : Srt key l := (List.pairwise_append.1 h).1
theorem Srt.right {l m : List α} (h : Srt key (l ++ m)) : Srt key m := (List.pairwise_append.1 h).2.1
theorem Srt.cross {l m : List α} (h : Srt key (l ++ m)) : ∀ x ∈ l, ∀ y ∈ m, key x ≤ key y := (List.pairwise_append.1 h).2.2
/-- a merge by its two halves -/
theorem sortK_halves {A1 A2 B1 B2 : List α} (hA : Srt key (A1 ++ A2)) (hB : Srt key (B1 ++ B2)) (h21 : ∀ x ∈ A2, ∀ y ∈ B1, key y < key x) (h12 : ∀ x ∈ A1, ∀ y ∈ B2, key x ≤ key y) :
 sortK key (A1 ++ B1) ++ sortK key (A2 ++ B2) = sortK key ((A1 ++ A2) ++ (B1 ++ B2)) := by
 refine sortK_of ((sortK_srt _).app (sortK_srt _) fun x hx y hy => ?_) ?_
 ·rw [(sortK_eqv _).mem] at hx hy
  rcases List.mem_append.1 hx with hx | hx <;> rcases List.mem_append.1 hy with hy | hy
  ·exact hA.cross x hx y hy
  ·exact h12 x hx y hy
  ·have := h21 y hy x hx; omega
  ·exact hB.cross x hx y hy
 ·refine ((sortK_eqv _).app (sortK_eqv _)).trans ?_
  rw [show A1 ++ B1 ++ (A2 ++ B2) = A1 ++ ((B1 ++ A2) ++ B2) by simp, show A1 ++ A2 ++ (B1 ++ B2) = A1 ++ ((A2 ++ B1) ++ B2) by simp]
  exact (Eqv.refl _).app ((Eqv.swap fun x hx y hy e => by have := h21 y hy x hx; omega).app (Eqv.refl _))
theorem sortK_first {x : α} {B1 B2 : List α} (hB : Srt key (B1 ++ B2)) (h1 : ∀ y ∈ B1, key y < key x) (h2 : ∀ y ∈ B2, key x ≤ key y) : B1 ++ x :: B2 = sortK key ([x] ++ (B1 ++ B2)) := by
 refine sortK_of (hB.left.app (List.pairwise_cons.2 ⟨h2, hB.right⟩) fun y hy z hz => ?_) ?_
 ·rcases List.mem_cons.1 hz with rfl | hz
  ·have := h1 y hy; omega
  ·exact hB.cross y hy z hz
 ·rw [show B1 ++ x :: B2 = (B1 ++ [x]) ++ B2 by simp, show [x] ++ (B1 ++ B2) = ([x] ++ B1) ++ B2 by simp]
  refine Eqv.app (Eqv.swap fun y hy z hz e => ?_) (Eqv.refl _)
  have := h1 y hy
  rw [List.mem_singleton.1 hz] at e; omega
theorem sortK_last {x : α} {A1 A2 : List α} (hA : Srt key (A1 ++ A2)) (h1 : ∀ y ∈ A1, key y ≤ key x) (h2 : ∀ y ∈ A2, key x < key y) : A1 ++ x :: A2 = sortK key ((A1 ++ A2) ++ [x]) := by
 refine sortK_of (hA.left.app (List.pairwise_cons.2 ⟨fun y hy => by have := h2 y hy; omega, hA.right⟩) fun y hy z hz => ?_) ?_
 ·rcases List.mem_cons.1 hz with rfl | hz
  ·exact h1 y hy
  ·exact hA.cross y hy z hz
 ·rw [show A1 ++ A2 ++ [x] = A1 ++ (A2 ++ [x]) by simp]
  refine Eqv.app (Eqv.refl _) (Eqv.swap (l := [x]) (m := A2) fun y hy z hz e => ?_)
  have := h2 z hz
  rw [List.mem_singleton.1 hy] at e; omega
theorem putK_last {x y : α} {l : List α} (h : Srt key (l ++ [y])) (hxy : key x < key y) : putK key x (l ++ [y]) = putK key x l ++ [y] := by
 refine srt_uniq (putK_srt h) ((putK_srt h.left).app (List.pairwise_singleton _ _) fun z hz v hv => ?_) ((putK_eqv h).trans ?_)
 ·rw [List.mem_singleton.1 hv]
  rcases mem_putK.1 hz with rfl | hz
  ·omega
  ·exact h.cross z hz y (by simp)
 ·refine Eqv.trans ?_ ((putK_eqv h.left).symm.app (Eqv.refl _))
  rw [List.append_assoc, List.append_assoc]
  refine (Eqv.refl _).app (Eqv.swap (l := [y]) (m := [x]) fun a ha b hb e => ?_)
  rw [List.mem_singleton.1 ha, List.mem_singleton.1 hb] at e; omega
theorem putK_end {x y : α} {l : List α} (h : Srt key (l ++ [y])) (hxy : key y ≤ key x) : putK key x (l ++ [y]) = l ++ [y] ++ [x] := by
 refine srt_uniq (putK_srt h) (h.app (List.pairwise_singleton _ _) fun z hz v hv => ?_) (putK_eqv h)
 rw [List.mem_singleton.1 hv]
 rcases List.mem_append.1 hz with hz | hz
 ·have := h.cross z hz y (by simp); omega
 ·rw [List.mem_singleton.1 hz]; exact hxy
end
/-! ### rows as arrays -/
section
variable {α : Type} [Inhabited α]
open Go.Sort
theorem get_at (X : List α) (x : α) (Z : List α) : (X ++ x :: Z).toArray[X.length]! = x := by simp [getElem!_def]
theorem get_mid (X A Z : List α) (q : Nat) (h : q < A.length) : (X ++ (A ++ Z)).toArray[X.length + q]! = A[q]! := by
 simp [getElem!_def, List.getElem?_append_right, List.getElem?_append_left h]
theorem swp_lists (X : List α) (x : α) (M : List α) (y : α) (Z : List α) : swp (X ++ x :: (M ++ y :: Z)).toArray X.length (X.length + 1 + M.length) = (X ++ y :: (M ++ x :: Z)).toArray := by
 have e1 : (X ++ x :: (M ++ y :: Z)).toArray[X.length + 1 + M.length]! = y := by
  rw [show X ++ x :: (M ++ y :: Z) = (X ++ x :: M) ++ y :: Z by simp, show X.length + 1 + M.length = (X ++ x :: M).length by simp; omega]
  exact get_at _ _ _
 unfold swp
 rw [e1, get_at]
 apply Array.toList_inj.1
 simp only [List.setIfInBounds_toArray]
 rw [List.set_append_right _ _ (Nat.le_refl _), Nat.sub_self, List.set_cons_zero, show X ++ y :: (M ++ y :: Z) = (X ++ y :: M) ++ y :: Z by simp, show X.length + 1 + M.length = (X ++ y :: M).length by simp; omega, List.set_append_right _ _ (Nat.le_refl _), Nat.sub_self, List.set_cons_zero]
 simp
theorem swp_comm (d : Array α) (i j : Nat) (hi : i < d.size) (hj : j < d.size) : swp d i j = swp d j i := by
 unfold swp
 apply Array.ext
 ·simp
 ·intro n h1 h2
  simp only [Array.size_setIfInBounds] at h1 h2
  by_cases e1 : j = n <;> by_cases e2 : i = n <;> simp_all [Array.getElem_setIfInBounds]
theorem swp_adj (X : List α) (x y : α) (Z : List α) : swp (X ++ x :: y :: Z).toArray X.length (X.length + 1) = (X ++ y :: x :: Z).toArray := swp_lists X x [] y Z
theorem swp_adj' (X : List α) (x y : α) (Z : List α) : swp (X ++ x :: y :: Z).toArray (X.length + 1) X.length = (X ++ y :: x :: Z).toArray := by
 rw [swp_comm _ _ _ (by simp) (by simp)]
 exact swp_adj X x y Z
/-- what comes in behind a sorted part -/
theorem insInner_is {key : α → Int} {lt : α → α → Bool} (hlt : ∀ x y, lt x y = decide (key x < key y)) (X : List α) (x : α) : ∀ (n : Nat) (S Z : List α), S.length = n → Srt key S →
 insInner lt X.length (X.length + n) (X ++ (S ++ x :: Z)).toArray = (X ++ (putK key x S ++ Z)).toArray
 | 0, S, Z, hn, _ => by
   obtain rfl : S = [] := List.length_eq_zero_iff.1 hn
   cases hX : X.length with
   | zero => rfl
   | succ j =>
     show insInner lt (j + 1) (j + 1) _ = _
     unfold insInner
     rw [if_neg (by simp)]
     rfl
 | n + 1, S, Z, hn, hS => by
   obtain ⟨S', y, rfl⟩ : ∃ S' y, S = S' ++ [y] := ⟨S.dropLast, S.getLast (by intro h; rw [h] at hn; cases hn), (List.dropLast_concat_getLast _).symm⟩
   have hn' : S'.length = n := by simpa using hn
   have eL : X ++ (S' ++ [y] ++ x :: Z) = (X ++ S') ++ y :: x :: Z := by simp
   have l1 : X.length + n = (X ++ S').length := by simp [hn']
   have g1 : (X ++ (S' ++ [y] ++ x :: Z)).toArray[X.length + n + 1]! = x := by
    rw [eL, show (X ++ S') ++ y :: x :: Z = (X ++ S' ++ [y]) ++ x :: Z by simp, show X.length + n + 1 = (X ++ S' ++ [y]).length by simp [hn']; omega]
    exact get_at _ _ _
   have g2 : (X ++ (S' ++ [y] ++ x :: Z)).toArray[X.length + n]! = y := by rw [eL, l1]; exact get_at _ _ _
   show insInner lt X.length (X.length + n + 1) _ = _
   unfold insInner
   rw [g1, g2, hlt]
   by_cases h : key x < key y
   ·rw [if_pos (by simp [h]; omega), eL, l1, swp_adj', ← l1, show X ++ S' ++ x :: y :: Z = X ++ (S' ++ x :: (y :: Z)) by simp, insInner_is hlt X x n S' (y :: Z) hn' hS.left, putK_last hS h]
    simp
   ·rw [if_neg (by simp [h]), putK_end hS (by omega)]
    simp
theorem insOuter_is {key : α → Int} {lt : α → α → Bool} (hlt : ∀ x y, lt x y = decide (key x < key y)) (X : List α) : ∀ (T : List α) (S Z : List α), Srt key S → 1 ≤ S.length →
 insOuter lt X.length (X.length + S.length + T.length) (X.length + S.length) (X ++ (S ++ (T ++ Z))).toArray = (X ++ (T.foldl (fun o x => putK key x o) S ++ Z)).toArray
 | [], S, Z, hS, h1 => by
   unfold insOuter
   rw [if_neg (by simp)]
   rfl
 | x :: T, S, Z, hS, h1 => by
   unfold insOuter
   rw [if_pos (by simp), show S ++ (x :: T ++ Z) = S ++ x :: (T ++ Z) by simp, insInner_is hlt X x S.length S (T ++ Z) rfl hS]
   have := insOuter_is hlt X T (putK key x S) Z (putK_srt hS) (by rw [putK_length]; omega)
   rw [putK_length] at this
   rw [List.length_cons, show X.length + S.length + (T.length + 1) = X.length + (S.length + 1) + T.length by omega, show X.length + S.length + 1 = X.length + (S.length + 1) by omega]
   exact this
theorem insertionSort_is {key : α → Int} {lt : α → α → Bool} (hlt : ∀ x y, lt x y = decide (key x < key y)) (X A Z : List α) : insertionSort lt (X ++ (A ++ Z)).toArray X.length (X.length + A.length) = (X ++ (sortK key A ++ Z)).toArray := by
 unfold insertionSort
 cases A with
 | nil =>
   unfold insOuter
   rw [if_neg (by simp)]
   rfl
 | cons x A =>
   have := insOuter_is hlt X A [x] Z (List.pairwise_singleton _ _) (Nat.le_refl _)
   rw [List.length_singleton] at this
   rw [List.length_cons, show X.length + (A.length + 1) = X.length + 1 + A.length by omega, show x :: A ++ Z = [x] ++ (A ++ Z) by simp]
   exact this
end
end Go.Proofs.YtpfbfhigelbfcaaGreat

