/- Unsynced changes on plain lists of bytes. -/
import Derived.Test.YtapobakolnlpmaaLib2
namespace Go.Proofs.Ytapobakolnlpmaa
set_option linter.unusedVariables false

/-- a change: where, whether it cuts, the bytes -/
structure Ch where
  off : Int
  cut : Bool
  dat : List Int
def rightP (c : Ch) : Bool := decide (0 ≤ c.off ∧ c.off ≤ 1048576 - (c.dat.length : Int))
/-- bytes written from a place on, bytes 0 before them where there are none -/
def putP (b : List Int) (o : Nat) (d : List Int) : List Int :=
  if d = [] then b else b.take o ++ List.replicate (o - b.length) 0 ++ d ++ b.drop (o + d.length)
/-- a change, of whose bytes the first m survive -/
def appP (b : List Int) (c : Ch) (m : Nat) : List Int :=
  if rightP c = false then b else if c.cut = true then b.take c.off.toNat else putP b c.off.toNat (c.dat.take m)
def allP (b : List Int) (l : List Ch) : List Int := l.foldl (fun b c => appP b c c.dat.length) b
/-- how many bytes of a change survive by a choice -/
def mostP (c : Ch) (x : Int) : Nat := if x = 255 then c.dat.length else x.toNat
def surP : List Int → List Ch → List Int → List Int
  | b, [], _ => b
  | b, _ :: _, [] => b
  | b, c :: l, x :: ch => surP (if 0 < x then appP b c (mostP c x) else b) l ch
def peakOne (n : Int) (c : Ch) : Int := if rightP c = true ∧ c.cut = false ∧ c.dat ≠ [] ∧ n < c.off + c.dat.length then c.off + c.dat.length else n
def peakP (n : Int) (l : List Ch) : Int := l.foldl peakOne n

theorem putP_nil (b : List Int) (o : Nat) : putP b o [] = b := by simp [putP]
theorem putP_length (b : List Int) (o : Nat) {d : List Int} (h : d ≠ []) : (putP b o d).length = max b.length (o + d.length) := by
  rw [putP, if_neg h]
  have : 0 < d.length := List.length_pos_iff.2 h
  simp only [List.length_append, List.length_take, List.length_replicate, List.length_drop]
  omega
theorem putP_getD (b : List Int) (o : Nat) (d : List Int) (j : Nat) : (putP b o d).getD j 0 = if o ≤ j ∧ j < o + d.length then d.getD (j - o) 0 else b.getD j 0 := by
  by_cases h : d = []
  · subst h
    rw [putP_nil, if_neg (by simp <;> omega)]
  · have hd : 0 < d.length := List.length_pos_iff.2 h
    rw [putP, if_neg h]
    simp only [List.getD_eq_getElem?_getD]
    by_cases h1 : j < o
    · rw [if_neg (by omega)]
      by_cases h2 : j < b.length
      · rw [List.append_assoc, List.append_assoc, List.getElem?_append_left (by rw [List.length_take]; omega), List.getElem?_take_of_lt h1]
      · rw [List.append_assoc, List.getElem?_append_left (by simp; omega), List.getElem?_append_right (by rw [List.length_take]; omega), List.getElem?_eq_none (l := b) (by omega)]
        rw [List.getElem?_replicate]
        split <;> rfl
    · have hl : (b.take o ++ List.replicate (o - b.length) 0).length = o := by simp; omega
      by_cases h2 : j < o + d.length
      · rw [if_pos ⟨by omega, h2⟩, List.append_assoc, List.getElem?_append_right (by rw [hl]; omega), hl, List.getElem?_append_left (by omega)]
      · rw [if_neg (by omega), List.append_assoc, List.getElem?_append_right (by rw [hl]; omega), hl, List.getElem?_append_right (by omega), List.getElem?_drop]
        congr 2; omega
theorem ext_getD {a b : List Int} (hl : a.length = b.length) (h : ∀ j, j < a.length → a.getD j 0 = b.getD j 0) : a = b := by
  apply List.ext_getElem hl
  intro i h1 h2
  have := h i h1
  simpa [List.getD_eq_getElem?_getD, h1, h2] using this
/-- one more byte -/
theorem putP_step (b : List Int) (o : Nat) (d : List Int) (k : Nat) (hk : k < d.length) :
    putP b o (d.take (k + 1)) = (putP b o (d.take k) ++ List.replicate (o + k + 1 - (putP b o (d.take k)).length) 0).set (o + k) (d.getD k 0) := by
  have hl1 : (d.take (k + 1)).length = k + 1 := by rw [List.length_take]; omega
  have hne : d.take (k + 1) ≠ [] := fun h => by rw [h] at hl1; simp at hl1
  have hl0 : (d.take k).length = k := by rw [List.length_take]; omega
  have hlk : (putP b o (d.take k)).length = if k = 0 then b.length else max b.length (o + k) := by
    by_cases h0 : k = 0
    · subst h0; simp [putP]
    · rw [if_neg h0, putP_length _ _ (fun h => by have := congrArg List.length h; rw [hl0] at this; simp at this; omega), hl0]
  refine ext_getD ?_ fun j hj => ?_
  · rw [putP_length _ _ hne, List.length_set, List.length_append, List.length_replicate, hl1, hlk]
    split <;> omega
  · rw [putP_getD, hl1]
    rw [putP_length _ _ hne, hl1] at hj
    have hset : ((putP b o (d.take k) ++ List.replicate (o + k + 1 - (putP b o (d.take k)).length) 0).set (o + k) (d.getD k 0)).getD j 0 = if j = o + k then d.getD k 0 else (putP b o (d.take k)).getD j 0 := by
      simp only [List.getD_eq_getElem?_getD]
      rw [List.getElem?_set]
      by_cases e : o + k = j
      · have hlt : o + k < (putP b o (d.take k) ++ List.replicate (o + k + 1 - (putP b o (d.take k)).length) 0).length := by
          rw [List.length_append, List.length_replicate]; omega
        rw [if_pos e, if_pos hlt, if_pos e.symm]; rfl
      · rw [if_neg e, if_neg (fun h => e h.symm)]
        by_cases h2 : j < (putP b o (d.take k)).length
        · rw [List.getElem?_append_left h2]
        · rw [List.getElem?_append_right (by omega), List.getElem?_eq_none (l := putP b o (d.take k)) (by omega), List.getElem?_replicate]
          split <;> rfl
    rw [hset, putP_getD, hl0]
    have ht : ∀ q m, q < m → (d.take m).getD q 0 = d.getD q 0 := fun q m hq => by
      rw [List.getD_eq_getElem?_getD, List.getElem?_take_of_lt hq, List.getD_eq_getElem?_getD]
    by_cases e : j = o + k
    · subst e
      rw [if_pos (by omega), if_pos rfl, show o + k - o = k by omega, ht k (k + 1) (by omega)]
    · rw [if_neg e]
      by_cases h2 : o ≤ j ∧ j < o + k
      · rw [if_pos (by omega), if_pos h2, ht _ _ (by omega), ht _ _ (by omega)]
      · rw [if_neg (by omega), if_neg h2]

/-- everything survives -/
theorem surP_all (b : List Int) (l : List Ch) : surP b l (List.replicate l.length 255) = allP b l := by
  induction l generalizing b with
  | nil => rfl
  | cons c l ih =>
    show surP (if (0 : Int) < 255 then appP b c (mostP c 255) else b) l (List.replicate l.length 255) = allP (appP b c c.dat.length) l
    rw [if_pos (by decide), ih]
    rfl
theorem surP_none (b : List Int) (l : List Ch) : surP b l [] = b := by cases l <;> rfl
theorem peakP_ge (l : List Ch) : ∀ n : Int, n ≤ peakP n l := by
  induction l with
  | nil => intro n; exact Int.le_refl _
  | cons c l ih =>
    intro n
    have h1 : n ≤ peakOne n c := by unfold peakOne; split <;> omega
    exact Int.le_trans h1 (ih _)
theorem peakP_mono (l : List Ch) : ∀ {n m : Int}, n ≤ m → peakP n l ≤ peakP m l := by
  induction l with
  | nil => intro n m h; exact h
  | cons c l ih =>
    intro n m h
    refine ih ?_
    unfold peakOne
    by_cases h1 : rightP c = true ∧ c.cut = false ∧ c.dat ≠ [] ∧ n < c.off + c.dat.length
    · by_cases h2 : rightP c = true ∧ c.cut = false ∧ c.dat ≠ [] ∧ m < c.off + c.dat.length
      · rw [if_pos h1, if_pos h2]; omega
      · have h3 : ¬ m < c.off + c.dat.length := fun h => h2 ⟨h1.1, h1.2.1, h1.2.2.1, h⟩
        rw [if_pos h1, if_neg h2]; omega
    · rw [if_neg h1]; split <;> omega
/-- no change leads above the peak -/
theorem appP_peak (b : List Int) (c : Ch) (m : Nat) : ((appP b c m).length : Int) ≤ peakOne b.length c := by
  unfold appP
  by_cases h1 : rightP c = false
  · rw [if_pos h1]; unfold peakOne; split <;> omega
  · rw [if_neg h1]
    have hr : rightP c = true := by simpa using h1
    by_cases h2 : c.cut = true
    · rw [if_pos h2, List.length_take]; unfold peakOne; split <;> omega
    · rw [if_neg h2]
      have hc : c.cut = false := by simpa using h2
      by_cases h3 : c.dat.take m = []
      · rw [h3, putP_nil]; unfold peakOne; split <;> omega
      · rw [putP_length _ _ h3, List.length_take]
        have hd : c.dat ≠ [] := fun h => h3 (by rw [h]; simp)
        have ho : 0 ≤ c.off := by unfold rightP at hr; exact (of_decide_eq_true hr).1
        unfold peakOne
        by_cases h4 : (b.length : Int) < c.off + c.dat.length
        · rw [if_pos ⟨hr, hc, hd, h4⟩]; omega
        · rw [if_neg (fun h => h4 h.2.2.2)]; omega
theorem allP_peak (l : List Ch) : ∀ b : List Int, ((allP b l).length : Int) ≤ peakP b.length l := by
  induction l with
  | nil => intro b; exact Int.le_refl _
  | cons c l ih =>
    intro b
    exact Int.le_trans (ih (appP b c c.dat.length)) (peakP_mono l (appP_peak b c _))
theorem surP_peak (l : List Ch) : ∀ (b ch : List Int), ((surP b l ch).length : Int) ≤ peakP b.length l := by
  induction l with
  | nil => intro b ch; cases ch <;> exact Int.le_refl _
  | cons c l ih =>
    intro b ch
    cases ch with
    | nil => exact peakP_ge (c :: l) _
    | cons x ch =>
      show ((surP (if 0 < x then appP b c (mostP c x) else b) l ch).length : Int) ≤ peakP (peakOne b.length c) l
      refine Int.le_trans (ih _ ch) (peakP_mono l ?_)
      split
      · exact appP_peak b c _
      · unfold peakOne; split <;> omega
/-- of a first part of the changes the peak is not above that of all -/
theorem peakP_take (l : List Ch) (k : Nat) (n : Int) : peakP n (l.take k) ≤ peakP n l := by
  have h : peakP n l = peakP (peakP n (l.take k)) (l.drop k) := by
    conv => lhs; rw [← List.take_append_drop k l]
    unfold peakP
    rw [List.foldl_append]
  rw [h]
  exact peakP_ge _ _
end Go.Proofs.Ytapobakolnlpmaa
