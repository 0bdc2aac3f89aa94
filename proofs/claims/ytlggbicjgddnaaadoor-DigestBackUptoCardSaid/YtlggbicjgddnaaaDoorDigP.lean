/- Digests on plain lists: their order, and rows that rise. -/
import Derived.Test.YtlggbicjgddnaaaDoorLib2
namespace Go.Proofs.YtlggbicjgddnaaaDoor
set_option linter.unusedVariables false

/-- ahead of -/
def dlt : List Int → List Int → Bool
  | x :: xs, y :: ys => if x = y then dlt xs ys else decide (x < y)
  | _, _ => false
theorem dlt_self (a : List Int) : dlt a a = false := by
  induction a with
  | nil => rfl
  | cons x xs ih => simp [dlt, ih]
theorem dlt_at {a b : List Int} {k : Nat} (h : a.take k = b.take k) (ha : k < a.length) (hb : k < b.length) (hne : a.getD k 0 ≠ b.getD k 0) : dlt a b = decide (a.getD k 0 < b.getD k 0) := by
  induction k generalizing a b with
  | zero =>
    cases a with
    | nil => simp at ha
    | cons x xs => cases b with
      | nil => simp at hb
      | cons y ys =>
        simp only [List.getD_cons_zero] at hne ⊢
        simp [dlt, hne]
  | succ k ih =>
    cases a with
    | nil => simp at ha
    | cons x xs => cases b with
      | nil => simp at hb
      | cons y ys =>
        simp only [List.take_succ_cons, List.cons.injEq] at h
        simp only [List.getD_cons_succ] at hne ⊢
        rw [dlt, if_pos h.1]
        exact ih h.2 (by simpa using ha) (by simpa using hb) hne
theorem dlt_trans {a b c : List Int} (h1 : dlt a b = true) (h2 : dlt b c = true) : dlt a c = true := by
  induction a generalizing b c with
  | nil => simp [dlt] at h1
  | cons x xs ih => cases b with
    | nil => simp [dlt] at h1
    | cons y ys => cases c with
      | nil => simp [dlt] at h2
      | cons z zs =>
        simp only [dlt] at h1 h2 ⊢
        split at h1 <;> split at h2 <;> split <;> simp_all
        · exact ih h1 h2
        · omega
        · omega
theorem dlt_asymm {a b : List Int} (h : dlt a b = true) : dlt b a = false := by
  cases e : dlt b a
  · rfl
  · have := dlt_trans h e
    rw [dlt_self] at this
    cases this
theorem dlt_total {a b : List Int} (hl : a.length = b.length) (h1 : dlt a b = false) (h2 : dlt b a = false) : a = b := by
  induction a generalizing b with
  | nil => cases b with
    | nil => rfl
    | cons => simp at hl
  | cons x xs ih => cases b with
    | nil => simp at hl
    | cons y ys =>
      simp only [dlt] at h1 h2
      by_cases e : x = y
      · subst e
        simp only [if_true] at h1 h2
        rw [ih (by simpa using hl) h1 h2]
      · rw [if_neg e] at h1
        rw [if_neg (fun h => e h.symm)] at h2
        simp at h1 h2
        omega

/-- each ahead of all behind it -/
def drises : List (List Int) → Prop
  | [] => True
  | d :: L => (∀ x ∈ L, dlt d x = true) ∧ drises L
/-- put in its place, once -/
def dput (L : List (List Int)) (d : List Int) : List (List Int) :=
  match L with
  | [] => [d]
  | x :: xs => if dlt x d = true then x :: dput xs d else if x = d then x :: xs else d :: x :: xs
def drow (l : List (List Int)) : List (List Int) := l.foldl dput []
theorem dput_mem (L : List (List Int)) (d x : List Int) : x ∈ dput L d ↔ x ∈ L ∨ x = d := by
  induction L with
  | nil => simp [dput]
  | cons y ys ih =>
    rw [dput]
    split
    · simp only [List.mem_cons, ih, or_assoc]
    · split
      · rename_i h; subst h
        simp only [List.mem_cons]
        exact ⟨fun h => Or.inl h, fun h => h.elim id Or.inl⟩
      · simp only [List.mem_cons]
        exact ⟨fun h => by rcases h with h | h | h <;> simp [h], fun h => by rcases h with (h | h) | h <;> simp [h]⟩
theorem dput_rises {n : Nat} {L : List (List Int)} {d : List Int} (hL : ∀ x ∈ L, x.length = n) (hd : d.length = n) (h : drises L) : drises (dput L d) := by
  induction L with
  | nil => simp [dput, drises]
  | cons y ys ih =>
    obtain ⟨h1, h2⟩ := h
    rw [dput]
    split
    · rename_i hyd
      refine ⟨fun x hx => ?_, ih (fun x hx => hL x (by simp [hx])) h2⟩
      rcases (dput_mem _ _ _).1 hx with hx | rfl
      · exact h1 x hx
      · exact hyd
    · rename_i hyd
      split
      · exact ⟨h1, h2⟩
      · rename_i hne
        have hdy : dlt d y = true := by
          cases e : dlt d y
          · exact absurd (dlt_total ((hL y (by simp)).trans hd.symm) (by simpa using hyd) e) hne
          · rfl
        refine ⟨fun x hx => ?_, h1, h2⟩
        rcases List.mem_cons.1 hx with rfl | hx
        · exact hdy
        · exact dlt_trans hdy (h1 x hx)
theorem dput_length_le (L : List (List Int)) (d : List Int) : (dput L d).length ≤ L.length + 1 := by
  induction L with
  | nil => simp [dput]
  | cons y ys ih =>
    rw [dput]
    split
    · simp; omega
    · split <;> simp
/-- rising rows of the same digests are the same -/
theorem drises_ext {A B : List (List Int)} (hA : drises A) (hB : drises B) (h : ∀ x, x ∈ A ↔ x ∈ B) : A = B := by
  induction A generalizing B with
  | nil => cases B with
    | nil => rfl
    | cons b B => exact absurd ((h b).2 (by simp)) (by simp)
  | cons a A ih => cases B with
    | nil => exact absurd ((h a).1 (by simp)) (by simp)
    | cons b B =>
      have hab : a = b := by
        rcases List.mem_cons.1 ((h a).1 (by simp)) with e | e
        · exact e
        · rcases List.mem_cons.1 ((h b).2 (by simp)) with e' | e'
          · exact e'.symm
          · have h1 := hA.1 b e'
            have h2 := hB.1 a e
            rw [dlt_asymm h1] at h2
            cases h2
      subst hab
      congr 1
      refine ih hA.2 hB.2 fun x => ?_
      constructor
      · intro hx
        rcases List.mem_cons.1 ((h x).1 (by simp [hx])) with e | e
        · subst e; have := hA.1 x hx; rw [dlt_self] at this; cases this
        · exact e
      · intro hx
        rcases List.mem_cons.1 ((h x).2 (by simp [hx])) with e | e
        · subst e; have := hB.1 x hx; rw [dlt_self] at this; cases this
        · exact e
theorem drow_snoc (l : List (List Int)) (d : List Int) : drow (l ++ [d]) = dput (drow l) d := by simp [drow, List.foldl_append]
theorem drow_take {l : List (List Int)} {k : Nat} (h : k < l.length) : drow (l.take (k + 1)) = dput (drow (l.take k)) (l.getD k []) := by
  rw [List.take_succ_eq_append_getElem h, drow_snoc]
  congr 1
  simp [List.getD_eq_getElem?_getD, h]
theorem foldl_dput_mem (l L : List (List Int)) (x : List Int) : x ∈ l.foldl dput L ↔ x ∈ L ∨ x ∈ l := by
  induction l generalizing L with
  | nil => simp
  | cons d l ih =>
    rw [List.foldl_cons, ih, dput_mem]
    simp only [List.mem_cons, or_assoc]
theorem drow_mem (l : List (List Int)) (x : List Int) : x ∈ drow l ↔ x ∈ l := by
  unfold drow; rw [foldl_dput_mem]; simp
theorem foldl_dput_rises {n : Nat} {l L : List (List Int)} (hl : ∀ x ∈ l, x.length = n) (hL : ∀ x ∈ L, x.length = n) (h : drises L) : drises (l.foldl dput L) := by
  induction l generalizing L with
  | nil => exact h
  | cons d l ih =>
    rw [List.foldl_cons]
    refine ih (fun x hx => hl x (by simp [hx])) (fun x hx => ?_) (dput_rises hL (hl d (by simp)) h)
    rcases (dput_mem _ _ _).1 hx with hx | rfl
    · exact hL x hx
    · exact hl x (by simp)
theorem drow_rises {n : Nat} {l : List (List Int)} (h : ∀ x ∈ l, x.length = n) : drises (drow l) := foldl_dput_rises h (by simp) trivial
theorem foldl_dput_length (l L : List (List Int)) : (l.foldl dput L).length ≤ L.length + l.length := by
  induction l generalizing L with
  | nil => simp
  | cons d l ih =>
    rw [List.foldl_cons]
    have h1 := ih (dput L d)
    have h2 := dput_length_le L d
    simp only [List.length_cons]
    omega
theorem drow_length (l : List (List Int)) : (drow l).length ≤ l.length := by have := foldl_dput_length l []; simpa [drow] using this
/-- what another's row is: rising, and of the same digests -/
theorem drow_is {n : Nat} {l R : List (List Int)} (hl : ∀ x ∈ l, x.length = n) (hR : drises R) (h : ∀ x, x ∈ R ↔ x ∈ l) : R = drow l :=
  drises_ext hR (drow_rises hl) fun x => by rw [h, drow_mem]
end Go.Proofs.YtlggbicjgddnaaaDoor
