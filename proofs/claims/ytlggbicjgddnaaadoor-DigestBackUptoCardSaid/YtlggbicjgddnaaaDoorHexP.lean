/- Pure notions on layer 3: figures. -/
import Derived.Test.YtlggbicjgddnaaaDoorLib2
namespace Go.Proofs.YtlggbicjgddnaaaDoor
set_option linter.unusedVariables false
open Go.RowKit Go.Lib

/-- The figure of a number below 16. -/
def hfig (n : Int) : Int := if n < 10 then 48 + n else 87 + n
/-- What a character is worth; 16: none. -/
def hwor (c : Int) : Int := if 48 ≤ c ∧ c ≤ 57 then c - 48 else if 97 ≤ c ∧ c ≤ 102 then c - 87 else 16

theorem hwor_bd (c : Int) : 0 ≤ hwor c ∧ hwor c ≤ 16 := by
  unfold hwor
  split
  · omega
  · split <;> omega
theorem hfig_bd {n : Int} (h0 : 0 ≤ n) (h1 : n < 16) : 0 ≤ hfig n ∧ hfig n < 256 := by unfold hfig; split <;> omega
theorem hwor_hfig {n : Int} (h0 : 0 ≤ n) (h1 : n < 16) : hwor (hfig n) = n := by
  unfold hfig hwor
  by_cases h : n < 10
  · rw [if_pos h, if_pos (by omega)]; omega
  · rw [if_neg h, if_neg (by omega), if_pos (by omega)]; omega
theorem hfig_hwor {c : Int} (h : hwor c ≠ 16) : hfig (hwor c) = c := by
  unfold hwor at h ⊢
  by_cases h1 : 48 ≤ c ∧ c ≤ 57
  · rw [if_pos h1]; unfold hfig; rw [if_pos (by omega)]; omega
  · rw [if_neg h1] at h ⊢
    by_cases h2 : 97 ≤ c ∧ c ≤ 102
    · rw [if_pos h2]; unfold hfig; rw [if_neg (by omega)]; omega
    · rw [if_neg h2] at h; exact absurd rfl h

/-- The figures of bytes. -/
def hexs (zs : List Int) : List Int := zs.flatMap fun z => [hfig (z / 16), hfig (z % 16)]

theorem hexs_nil : hexs [] = [] := rfl
theorem hexs_cons (z : Int) (zs : List Int) : hexs (z :: zs) = hfig (z / 16) :: hfig (z % 16) :: hexs zs := rfl
theorem hexs_append (xs ys : List Int) : hexs (xs ++ ys) = hexs xs ++ hexs ys := by simp [hexs]
theorem hexs_length (zs : List Int) : (hexs zs).length = 2 * zs.length := by
  induction zs with
  | nil => rfl
  | cons z zs ih => rw [hexs_cons, List.length_cons, List.length_cons, ih, List.length_cons]; omega
theorem hexs_byte {zs : List Int} (h : ∀ j, 0 ≤ zs.getD j 0 ∧ zs.getD j 0 < 256) : ∀ j, 0 ≤ (hexs zs).getD j 0 ∧ (hexs zs).getD j 0 < 256 := by
  induction zs with
  | nil => intro j; simp [hexs]
  | cons z zs ih =>
    have hz := h 0
    simp only [List.getD_cons_zero] at hz
    have ih' := ih fun j => by simpa using h (j + 1)
    intro j
    rw [hexs_cons]
    match j with
    | 0 => simpa using hfig_bd (n := z / 16) (by omega) (by omega)
    | 1 => simpa using hfig_bd (n := z % 16) (by omega) (by omega)
    | j + 2 => simpa using ih' j
theorem hexs_take {zs : List Int} {k : Nat} (hk : k < zs.length) : hexs (zs.take (k + 1)) = hexs (zs.take k) ++ [hfig (zs.getD k 0 / 16), hfig (zs.getD k 0 % 16)] := by
  rw [List.take_succ_eq_append_getElem hk, hexs_append]
  congr 1
  simp [hexs, List.getD_eq_getElem?_getD, List.getElem?_eq_getElem hk]
theorem hexs_even {zs : List Int} : ∀ j, j < zs.length → (hexs zs).getD (2 * j) 0 = hfig (zs.getD j 0 / 16) := by
  induction zs with
  | nil => intro j hj; simp at hj
  | cons z zs ih =>
    intro j hj
    rw [hexs_cons]
    match j with
    | 0 => rfl
    | j + 1 =>
      have e : 2 * (j + 1) = 2 * j + 1 + 1 := by omega
      rw [e, List.getD_cons_succ, List.getD_cons_succ, List.getD_cons_succ]
      exact ih j (by simpa using hj)
theorem hexs_odd {zs : List Int} : ∀ j, j < zs.length → (hexs zs).getD (2 * j + 1) 0 = hfig (zs.getD j 0 % 16) := by
  induction zs with
  | nil => intro j hj; simp at hj
  | cons z zs ih =>
    intro j hj
    rw [hexs_cons]
    match j with
    | 0 => rfl
    | j + 1 =>
      have e : 2 * (j + 1) + 1 = 2 * j + 1 + 1 + 1 := by omega
      rw [e, List.getD_cons_succ, List.getD_cons_succ, List.getD_cons_succ]
      exact ih j (by simpa using hj)

/-- The bytes that characters say, while the first k of them have been read. -/
def hcell (cs : List Int) (k j : Nat) : Int := if 2 * j + 1 < k then hwor (cs.getD (2 * j) 0) * 16 + hwor (cs.getD (2 * j + 1) 0) else if 2 * j < k then hwor (cs.getD (2 * j) 0) else 0
def hread (cs : List Int) (m k : Nat) : List Int := (List.range m).map (hcell cs k)
/-- All of the first k characters are figures. -/
def hgood (cs : List Int) (k : Nat) : Prop := ∀ j, j < k → hwor (cs.getD j 0) ≠ 16
instance (cs : List Int) (k : Nat) : Decidable (hgood cs k) := by unfold hgood; exact inferInstance
/-- What Read says of characters: its bytes, or none. -/
def hrd (cs : List Int) : Option (List Int) := if cs.length % 2 = 0 ∧ hgood cs cs.length then some (hread cs (cs.length / 2) cs.length) else none

theorem hread_length (cs : List Int) (m k : Nat) : (hread cs m k).length = m := by simp [hread]
theorem hread_getD (cs : List Int) (m k j : Nat) (hj : j < m) : (hread cs m k).getD j 0 = hcell cs k j := by
  simp [hread, List.getD_eq_getElem?_getD, hj]
theorem hread_zero (cs : List Int) (m : Nat) : hread cs m 0 = List.replicate m 0 := by
  apply List.ext_getElem
  · simp [hread]
  · intro i h1 h2
    simp [hread, hcell]
theorem hcell_bd {cs : List Int} {n k : Nat} (hg : hgood cs n) (hk : k ≤ n) (j : Nat) : 0 ≤ hcell cs k j ∧ hcell cs k j < 256 := by
  have b1 := hwor_bd (cs.getD (2 * j) 0)
  have b2 := hwor_bd (cs.getD (2 * j + 1) 0)
  unfold hcell
  split
  · have g1 := hg (2 * j) (by omega)
    have g2 := hg (2 * j + 1) (by omega)
    omega
  · split <;> omega
theorem hread_byte {cs : List Int} {m n k : Nat} (hg : hgood cs n) (hk : k ≤ n) : ∀ j, 0 ≤ (hread cs m k).getD j 0 ∧ (hread cs m k).getD j 0 < 256 := by
  intro j
  by_cases hj : j < m
  · rw [hread_getD cs m k j hj]; exact hcell_bd hg hk j
  · rw [List.getD_eq_getElem?_getD, List.getElem?_eq_none (by rw [hread_length]; omega)]; simp

/-- One character more. -/
theorem hread_set (cs : List Int) (m k : Nat) (hk : k < 2 * m) : (hread cs m k).set (k / 2) (hcell cs k (k / 2) * 16 + hwor (cs.getD k 0)) = hread cs m (k + 1) := by
  apply List.ext_getElem
  · simp [hread]
  · intro i h1 h2
    have hi : i < m := by simpa [hread] using h2
    rw [List.getElem_set]
    by_cases e : k / 2 = i
    · rw [if_pos e]
      subst e
      simp only [hread, List.getElem_map, List.getElem_range]
      unfold hcell
      by_cases hp : k % 2 = 0
      · have e2 : 2 * (k / 2) = k := by omega
        rw [e2, if_neg (by omega), if_neg (by omega), if_neg (by omega), if_pos (by omega)]
        omega
      · have e2 : 2 * (k / 2) = k - 1 := by omega
        rw [e2, if_neg (by omega), if_pos (by omega), if_pos (by omega)]
        congr 3
        omega
    · rw [if_neg e]
      simp only [hread, List.getElem_map, List.getElem_range]
      unfold hcell
      by_cases h3 : 2 * i + 1 < k
      · rw [if_pos h3, if_pos (by omega)]
      · rw [if_neg h3, if_neg (by omega : ¬ 2 * i < k), if_neg (by omega : ¬ 2 * i + 1 < k + 1), if_neg (by omega : ¬ 2 * i < k + 1)]
/-- .. and two, as the reference appends them. -/
theorem hread_two (cs : List Int) (i n : Nat) (hi : 2 * i + 1 < n) : hread cs (i + 1) n = hread cs i n ++ [hwor (cs.getD (2 * i) 0) * 16 + hwor (cs.getD (2 * i + 1) 0)] := by
  rw [hread, List.range_succ, List.map_append]
  congr 1
  simp [hcell, hi]

/-- There and back. -/
theorem hrd_hexs {zs : List Int} (h : ∀ j, 0 ≤ zs.getD j 0 ∧ zs.getD j 0 < 256) : hrd (hexs zs) = some zs := by
  have hg : hgood (hexs zs) (hexs zs).length := by
    intro j hj
    rw [hexs_length] at hj
    have hz := h (j / 2)
    by_cases hp : j % 2 = 0
    · have e : j = 2 * (j / 2) := by omega
      rw [e, hexs_even (j / 2) (by omega), hwor_hfig (by omega) (by omega)]
      omega
    · have e : j = 2 * (j / 2) + 1 := by omega
      rw [e, hexs_odd (j / 2) (by omega), hwor_hfig (by omega) (by omega)]
      omega
  rw [hrd, if_pos ⟨by rw [hexs_length]; omega, hg⟩]
  congr 1
  have hl : (hexs zs).length / 2 = zs.length := by rw [hexs_length]; omega
  rw [hl, hexs_length]
  apply List.ext_getElem
  · rw [hread_length]
  · intro i h1 h2
    have hz := h i
    have e := hread_getD (hexs zs) zs.length (2 * zs.length) i h2
    rw [List.getD_eq_getElem?_getD, List.getElem?_eq_getElem h1, Option.getD_some] at e
    rw [e, hcell, if_pos (by omega), hexs_even i h2, hexs_odd i h2, hwor_hfig (by omega) (by omega), hwor_hfig (by omega) (by omega)]
    simp only [List.getD_eq_getElem?_getD, List.getElem?_eq_getElem h2, Option.getD_some] at hz ⊢
    omega

theorem hexs_hrd {cs ys : List Int} (h : hrd cs = some ys) : hexs ys = cs := by
  unfold hrd at h
  split at h
  · next hc =>
    obtain ⟨he, hg⟩ := hc
    simp only [Option.some.injEq] at h
    subst h
    have hl : (hread cs (cs.length / 2) cs.length).length = cs.length / 2 := hread_length _ _ _
    have key : ∀ i, i < cs.length → (hexs (hread cs (cs.length / 2) cs.length)).getD i 0 = cs.getD i 0 := by
      intro i hi
      have b1 := hwor_bd (cs.getD (2 * (i / 2)) 0)
      have b2 := hwor_bd (cs.getD (2 * (i / 2) + 1) 0)
      have g1 := hg (2 * (i / 2)) (by omega)
      have g2 := hg (2 * (i / 2) + 1) (by omega)
      have ec : (hread cs (cs.length / 2) cs.length).getD (i / 2) 0 = hwor (cs.getD (2 * (i / 2)) 0) * 16 + hwor (cs.getD (2 * (i / 2) + 1) 0) := by
        rw [hread_getD cs _ _ _ (by omega), hcell, if_pos (by omega)]
      by_cases hp : i % 2 = 0
      · have e : i = 2 * (i / 2) := by omega
        rw [e, hexs_even (i / 2) (by rw [hl]; omega), ec, ← e] 
        have e3 : (hwor (cs.getD i 0) * 16 + hwor (cs.getD (i + 1) 0)) / 16 = hwor (cs.getD i 0) := by
          rw [← e] at b1 b2 g1 g2
          omega
        rw [e3]
        exact hfig_hwor (hg i hi)
      · have e : i = 2 * (i / 2) + 1 := by omega
        rw [e, hexs_odd (i / 2) (by rw [hl]; omega), ec]
        have e3 : (hwor (cs.getD (2 * (i / 2)) 0) * 16 + hwor (cs.getD (2 * (i / 2) + 1) 0)) % 16 = hwor (cs.getD (2 * (i / 2) + 1) 0) := by omega
        rw [e3]
        exact hfig_hwor g2
    apply List.ext_getElem
    · rw [hexs_length, hl]; omega
    · intro i h1 h2
      have := key i h2
      simpa [List.getD_eq_getElem?_getD, List.getElem?_eq_getElem h1, List.getElem?_eq_getElem h2] using this
  · cases h
end Go.Proofs.YtlggbicjgddnaaaDoor
