/- Names on plain numbers: of tags, of a disk's files, of the store's own files. -/
import Derived.Test.YtjdggdkdlgaocaaDoorLib2
namespace Go.Proofs.YtjdggdkdlgaocaaDoor
set_option linter.unusedVariables false

def nlow (c : Int) : Bool := decide (97 ≤ c ∧ c ≤ 122) || decide (48 ≤ c ∧ c ≤ 57)
def nmid (c : Int) : Bool := nlow c || decide (c = 46) || decide (c = 95) || decide (c = 45)
/-- a tag's name -/
def tagP (cs : List Int) : Bool := decide (1 ≤ cs.length ∧ cs.length ≤ 32) && cs.all nmid && nlow (cs.getD 0 0)
def nvis (c : Int) : Bool := decide (33 ≤ c ∧ c ≤ 126 ∧ c ≠ 47)
/-- a name for a disk -/
def diskP (cs : List Int) : Bool := decide (1 ≤ cs.length ∧ cs.length ≤ 32) && cs.all nvis
def wrd (k : Int) : List Int := if k = 1 then [115, 101, 103, 45] else if k = 2 then [104, 105, 110, 116, 45] else if k = 3 then [112, 111, 105, 110, 116, 45] else []
def dig8 (n : Int) : List Int := [n / 10000000 % 10 + 48, n / 1000000 % 10 + 48, n / 100000 % 10 + 48, n / 10000 % 10 + 48, n / 1000 % 10 + 48, n / 100 % 10 + 48, n / 10 % 10 + 48, n % 10 + 48]
def filegood (k n : Int) : Prop := 1 ≤ k ∧ k ≤ 3 ∧ 1 ≤ n ∧ n ≤ 99999999
instance (k n : Int) : Decidable (filegood k n) := by unfold filegood; infer_instance
/-- a file's name -/
def fileP (k n : Int) : List Int := if filegood k n then wrd k ++ dig8 n else []
def nval (ds : List Int) : Int := ds.foldl (fun a c => a * 10 + (c - 48)) 0
def nnum (ds : List Int) : Bool := ds.all fun c => decide (48 ≤ c ∧ c ≤ 57)
def nkind (cs : List Int) : Int :=
  if cs.length = 12 ∧ cs.take 4 = wrd 1 then 1 else if cs.length = 13 ∧ cs.take 5 = wrd 2 then 2 else if cs.length = 14 ∧ cs.take 6 = wrd 3 then 3 else 0
/-- which file's name it is -/
def numP (cs : List Int) : Int × Int :=
  if nkind cs = 0 then (0, 0) else if nnum (cs.drop (cs.length - 8)) = true ∧ 0 < nval (cs.drop (cs.length - 8)) then (nkind cs, nval (cs.drop (cs.length - 8))) else (0, 0)

theorem nval_dig8 {n : Int} (h0 : 0 ≤ n) (h : n ≤ 99999999) : nval (dig8 n) = n := by
  simp only [nval, dig8, List.foldl_cons, List.foldl_nil]; omega
theorem nnum_dig8 (n : Int) : nnum (dig8 n) = true := by
  simp only [nnum, dig8, List.all_cons, List.all_nil, Bool.and_true, Bool.and_eq_true, decide_eq_true_eq]; omega
theorem dig8_nval {ds : List Int} (hl : ds.length = 8) (h : nnum ds = true) : dig8 (nval ds) = ds ∧ 0 ≤ nval ds ∧ nval ds ≤ 99999999 := by
  match ds, hl with
  | [a, b, c, d, e, f, g, i], _ =>
    simp only [nnum, List.all_cons, List.all_nil, Bool.and_true, Bool.and_eq_true, decide_eq_true_eq] at h
    simp only [nval, dig8, List.foldl_cons, List.foldl_nil, List.cons.injEq, and_true]
    omega
theorem wrd_cases {k : Int} (h1 : 1 ≤ k) (h3 : k ≤ 3) : k = 1 ∨ k = 2 ∨ k = 3 := by omega
theorem fileP_good {k n : Int} (h : filegood k n) : fileP k n = wrd k ++ dig8 n := if_pos h
theorem fileP_bad {k n : Int} (h : ¬ filegood k n) : fileP k n = [] := if_neg h
theorem fileP_nil {k n : Int} : fileP k n = [] ↔ ¬ filegood k n := by
  constructor
  · intro h hg
    rw [fileP_good hg] at h
    have := congrArg List.length h
    simp [dig8] at this
  · exact fileP_bad
/-- there and back -/
theorem numP_fileP {k n : Int} (h : filegood k n) : numP (fileP k n) = (k, n) := by
  rw [fileP_good h]
  obtain ⟨h1, h3, n1, n2⟩ := h
  have hv := nval_dig8 (n := n) (by omega) n2
  have hn := nnum_dig8 n
  rcases wrd_cases h1 h3 with rfl | rfl | rfl
  · have e : wrd 1 ++ dig8 n = [115, 101, 103, 45, n / 10000000 % 10 + 48, n / 1000000 % 10 + 48, n / 100000 % 10 + 48, n / 10000 % 10 + 48, n / 1000 % 10 + 48, n / 100 % 10 + 48, n / 10 % 10 + 48, n % 10 + 48] := rfl
    have hd : (wrd 1 ++ dig8 n).drop ((wrd 1 ++ dig8 n).length - 8) = dig8 n := rfl
    have hk : nkind (wrd 1 ++ dig8 n) = 1 := by unfold nkind; rw [if_pos ⟨rfl, rfl⟩]
    rw [numP, hd, hk, if_neg (by decide), if_pos ⟨hn, by omega⟩, hv]
  · have hd : (wrd 2 ++ dig8 n).drop ((wrd 2 ++ dig8 n).length - 8) = dig8 n := rfl
    have hk : nkind (wrd 2 ++ dig8 n) = 2 := by
      unfold nkind
      rw [if_neg (fun h => by have := h.1; simp [wrd, dig8] at this), if_pos ⟨rfl, rfl⟩]
    rw [numP, hd, hk, if_neg (by decide), if_pos ⟨hn, by omega⟩, hv]
  · have hd : (wrd 3 ++ dig8 n).drop ((wrd 3 ++ dig8 n).length - 8) = dig8 n := rfl
    have hk : nkind (wrd 3 ++ dig8 n) = 3 := by
      unfold nkind
      rw [if_neg (fun h => by have := h.1; simp [wrd, dig8] at this), if_neg (fun h => by have := h.1; simp [wrd, dig8] at this), if_pos ⟨rfl, rfl⟩]
    rw [numP, hd, hk, if_neg (by decide), if_pos ⟨hn, by omega⟩, hv]
theorem fileP_numP {cs : List Int} (h : numP cs ≠ (0, 0)) : fileP (numP cs).1 (numP cs).2 = cs := by
  unfold numP at h ⊢
  by_cases h0 : nkind cs = 0
  · rw [if_pos h0] at h; exact absurd rfl h
  · rw [if_neg h0] at h ⊢
    by_cases hn : nnum (cs.drop (cs.length - 8)) = true ∧ 0 < nval (cs.drop (cs.length - 8))
    · rw [if_pos hn]
      have key : ∀ k m, nkind cs = k → cs.length = m + 8 → cs.take m = wrd k → 1 ≤ k → k ≤ 3 → fileP k (nval (cs.drop (cs.length - 8))) = cs := by
        intro k m hk hl ht k1 k3
        have hdl : (cs.drop (cs.length - 8)).length = 8 := by rw [List.length_drop]; omega
        obtain ⟨e1, e2, e3⟩ := dig8_nval hdl hn.1
        rw [fileP_good ⟨k1, k3, by omega, e3⟩, e1, ← ht, show cs.length - 8 = m by omega, List.take_append_drop]
      show fileP (nkind cs) _ = cs
      have hk : nkind cs = 1 ∧ cs.length = 12 ∧ cs.take 4 = wrd 1 ∨ nkind cs = 2 ∧ cs.length = 13 ∧ cs.take 5 = wrd 2 ∨ nkind cs = 3 ∧ cs.length = 14 ∧ cs.take 6 = wrd 3 := by
        unfold nkind at h0 ⊢
        by_cases c1 : cs.length = 12 ∧ cs.take 4 = wrd 1
        · rw [if_pos c1]; exact Or.inl ⟨rfl, c1⟩
        · rw [if_neg c1] at h0 ⊢
          by_cases c2 : cs.length = 13 ∧ cs.take 5 = wrd 2
          · rw [if_pos c2]; exact Or.inr (Or.inl ⟨rfl, c2⟩)
          · rw [if_neg c2] at h0 ⊢
            by_cases c3 : cs.length = 14 ∧ cs.take 6 = wrd 3
            · rw [if_pos c3]; exact Or.inr (Or.inr ⟨rfl, c3⟩)
            · rw [if_neg c3] at h0; exact absurd rfl h0
      rcases hk with ⟨e, hl, ht⟩ | ⟨e, hl, ht⟩ | ⟨e, hl, ht⟩
      · rw [e]; exact key 1 4 e hl ht (by decide) (by decide)
      · rw [e]; exact key 2 5 e hl ht (by decide) (by decide)
      · rw [e]; exact key 3 6 e hl ht (by decide) (by decide)
    · rw [if_neg hn] at h; exact absurd rfl h
theorem diskP_fileP {k n : Int} (h : filegood k n) : diskP (fileP k n) = true := by
  rw [fileP_good h]
  obtain ⟨h1, h3, n1, n2⟩ := h
  rcases wrd_cases h1 h3 with rfl | rfl | rfl <;>
    simp [diskP, wrd, dig8, nvis] <;> omega
def tempC : List Int := [112, 111, 105, 110, 116, 46, 116, 109, 112]
theorem temp_num : numP tempC = (0, 0) := by decide
theorem temp_disk : diskP tempC = true := by decide
end Go.Proofs.YtjdggdkdlgaocaaDoor
