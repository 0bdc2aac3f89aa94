/- Plain mathematics of package varint. -/
namespace Go.Proofs.Ytjlbeglnflcjmaa
set_option linter.unusedVariables false

/-- The bytes of a number, seven bits a byte, the least significant ones first. -/
def vput (n : Nat) : List Int := if n < 128 then [(n : Int)] else ((n % 128 + 128 : Nat) : Int) :: vput (n / 128)
termination_by n
decreasing_by omega

theorem vput_lo {n : Nat} (h : n < 128) : vput n = [(n : Int)] := by rw [vput, if_pos h]
theorem vput_hi {n : Nat} (h : 128 ≤ n) : vput n = ((n % 128 + 128 : Nat) : Int) :: vput (n / 128) := by rw [vput, if_neg (by omega)]

theorem vput_length_pos (n : Nat) : 1 ≤ (vput n).length := by
  by_cases h : n < 128
  · simp [vput_lo h]
  · simp [vput_hi (show 128 ≤ n by omega)]

theorem vput_length_le : ∀ (k n : Nat), n < 128 ^ (k + 1) → (vput n).length ≤ k + 1
  | 0, n, h => by rw [vput_lo (by simpa using h)]; simp
  | k + 1, n, h => by
    by_cases h1 : n < 128
    · rw [vput_lo h1]; simp
    · rw [vput_hi (by omega), List.length_cons]
      have := vput_length_le k (n / 128) (by rw [Nat.pow_succ] at h; omega)
      omega

theorem vput_10 {n : Nat} (h : n < 18446744073709551616) : (vput n).length ≤ 10 := vput_length_le 9 n (by omega)

theorem vput_byte (n : Nat) : ∀ j, 0 ≤ (vput n).getD j 0 ∧ (vput n).getD j 0 < 256 := by
  induction n using Nat.strongRecOn with
  | _ n ih =>
    intro j
    by_cases h : n < 128
    · rw [vput_lo h]
      cases j with
      | zero => simp; omega
      | succ j => simp
    · rw [vput_hi (by omega)]
      cases j with
      | zero => simp; omega
      | succ j => simpa using ih (n / 128) (by omega) j

/-- The sum of the first k groups. -/
def loS (ys : List Int) : Nat → Int
  | 0 => 0
  | k + 1 => loS ys k + ys.getD k 0 % 128 * 128 ^ k

theorem loS_bd (ys : List Int) : ∀ k, 0 ≤ loS ys k ∧ loS ys k < 128 ^ k
  | 0 => by simp [loS]
  | k + 1 => by
    have h := loS_bd ys k
    have hp : (0 : Int) < 128 ^ k := Int.pow_pos (by omega)
    have g0 : 0 ≤ ys.getD k 0 % 128 := Int.emod_nonneg _ (by omega)
    have g1 : ys.getD k 0 % 128 < 128 := Int.emod_lt_of_pos _ (by omega)
    have h1 : 0 ≤ ys.getD k 0 % 128 * 128 ^ k := Int.mul_nonneg g0 (Int.le_of_lt hp)
    have h2 : ys.getD k 0 % 128 * 128 ^ k ≤ 127 * 128 ^ k := Int.mul_le_mul_of_nonneg_right (by omega) (Int.le_of_lt hp)
    rw [loS, Int.pow_succ]
    omega

theorem loS_cons (c : Int) (r : List Int) : ∀ k, loS (c :: r) (k + 1) = c % 128 + 128 * loS r k
  | 0 => by simp [loS]
  | k + 1 => by
    rw [loS, loS_cons c r k, loS, List.getD_cons_succ, Int.pow_succ, Int.mul_add, ← Int.mul_assoc, Int.mul_comm 128 (r.getD k 0 % 128 * 128 ^ k), Int.mul_assoc (r.getD k 0 % 128)]
    omega

/-- The same from the other end. -/
def hiS (ys : List Int) (k : Nat) : Nat → Int
  | 0 => 0
  | m + 1 => hiS ys k m * 128 + ys.getD (k - 1 - m) 0 % 128

theorem hiS_split (ys : List Int) (k : Nat) : ∀ m, m ≤ k → loS ys k = loS ys (k - m) + hiS ys k m * 128 ^ (k - m)
  | 0, _ => by simp [hiS]
  | m + 1, h => by
    have ih := hiS_split ys k m (by omega)
    have e : k - m = (k - (m + 1)) + 1 := by omega
    rw [ih, e, loS, hiS, Int.pow_succ]
    have e2 : k - 1 - m = k - (m + 1) := by omega
    rw [e2, Int.add_mul]
    have e3 : hiS ys k m * 128 * 128 ^ (k - (m + 1)) = hiS ys k m * (128 ^ (k - (m + 1)) * 128) := by rw [Int.mul_assoc, Int.mul_comm 128]
    omega

theorem hiS_lo (ys : List Int) (k : Nat) : hiS ys k k = loS ys k := by
  have h := hiS_split ys k k (Nat.le_refl _)
  simp [loS] at h
  exact h.symm

theorem hiS_bd (ys : List Int) (k : Nat) : ∀ m, 0 ≤ hiS ys k m ∧ hiS ys k m < 128 ^ m
  | 0 => by simp [hiS]
  | m + 1 => by
    have h := hiS_bd ys k m
    have g0 : 0 ≤ ys.getD (k - 1 - m) 0 % 128 := Int.emod_nonneg _ (by omega)
    have g1 : ys.getD (k - 1 - m) 0 % 128 < 128 := Int.emod_lt_of_pos _ (by omega)
    rw [hiS, Int.pow_succ]
    omega

/-- How many of the first bytes say that more follow. -/
def vk (ys : List Int) : Nat := (ys.takeWhile fun c => decide (127 < c)).length

theorem vk_le (ys : List Int) : vk ys ≤ ys.length := by
  have := (List.takeWhile_prefix (p := fun c => decide (127 < c)) (l := ys)).length_le
  exact this

theorem vk_ge : ∀ (ys : List Int) (i : Nat), i ≤ ys.length → (∀ j, j < i → 127 < ys.getD j 0) → i ≤ vk ys
  | ys, 0, _, _ => Nat.zero_le _
  | [], i + 1, hl, _ => by simp at hl
  | c :: r, i + 1, hl, h => by
    have h0 : 127 < c := h 0 (by omega)
    have := vk_ge r i (by simpa using hl) (fun j hj => by simpa using h (j + 1) (by omega))
    unfold vk at this ⊢
    rw [List.takeWhile_cons_of_pos (by simpa using h0), List.length_cons]
    omega

theorem vk_all : ∀ (ys : List Int) (j : Nat), j < vk ys → 127 < ys.getD j 0
  | [], j, h => by simp [vk] at h
  | c :: r, j, h => by
    unfold vk at h
    by_cases h0 : 127 < c
    · rw [List.takeWhile_cons_of_pos (by simpa using h0), List.length_cons] at h
      cases j with
      | zero => exact h0
      | succ j => simpa using vk_all r j (by unfold vk; omega)
    · rw [List.takeWhile_cons_of_neg (by simpa using h0)] at h
      simp at h

theorem vk_end : ∀ (ys : List Int), vk ys < ys.length → ys.getD (vk ys) 0 ≤ 127
  | [], h => by simp at h
  | c :: r, h => by
    unfold vk at h ⊢
    by_cases h0 : 127 < c
    · rw [List.takeWhile_cons_of_pos (by simpa using h0), List.length_cons] at h ⊢
      have := vk_end r (by unfold vk; simpa using h)
      simpa [vk] using this
    · rw [List.takeWhile_cons_of_neg (by simpa using h0)]
      simpa using h0

theorem vk_eq {ys : List Int} {i : Nat} (hl : i ≤ ys.length) (h : ∀ j, j < i → 127 < ys.getD j 0) (he : i = ys.length ∨ ys.getD i 0 ≤ 127) : vk ys = i := by
  have h1 := vk_ge ys i hl h
  have h2 := vk_le ys
  rcases Nat.lt_or_ge i (vk ys) with h3 | h3
  · have := vk_all ys i h3
    omega
  · omega

/-- Which number stands ahead in some bytes, and how many it takes; or why none does. -/
def rd (ys : List Int) : Int × Nat × Int :=
  if 9 ≤ vk ys ∧ 9 < ys.length ∧ 1 < ys.getD 9 0 then (0, 0, 20)
  else if ys.length ≤ vk ys then (0, 0, 4)
  else if 0 < vk ys ∧ ys.getD (vk ys) 0 = 0 then (0, 0, 3)
  else (loS ys (vk ys + 1), vk ys + 1, 0)

def tk (zs : List Int) (a : Int) : Int × Int × Int :=
  if a < 0 ∨ zs.length < a then (0, 0, 2)
  else if (rd (zs.drop a.toNat)).2.2 = 0 then ((rd (zs.drop a.toNat)).1, a + (rd (zs.drop a.toNat)).2.1, 0) else (0, 0, (rd (zs.drop a.toNat)).2.2)

theorem tk_arg {zs : List Int} {a : Int} (h : a < 0 ∨ zs.length < a) : tk zs a = (0, 0, 2) := by rw [tk, if_pos h]
theorem tk_ok {zs : List Int} {a : Nat} {n : Int} {s : Nat} (h : a ≤ zs.length) (hr : rd (zs.drop a) = (n, s, 0)) : tk zs a = (n, (a : Int) + (s : Int), 0) := by
  rw [tk, if_neg (by omega), Int.toNat_natCast, hr, if_pos rfl]
theorem tk_err {zs : List Int} {a : Nat} {f : Int} (h : a ≤ zs.length) (hf : f ≠ 0) (hr : rd (zs.drop a) = (0, 0, f)) : tk zs a = (0, 0, f) := by
  rw [tk, if_neg (by omega), Int.toNat_natCast, hr, if_neg hf]

theorem rd_range {ys : List Int} (hl : 9 < ys.length) (h : ∀ j, j < 9 → 127 < ys.getD j 0) (h9 : 1 < ys.getD 9 0) : rd ys = (0, 0, 20) := by
  rw [rd, if_pos ⟨vk_ge ys 9 (by omega) h, hl, h9⟩]
theorem rd_short {ys : List Int} (hl : ys.length ≤ 9) (h : ∀ j, j < ys.length → 127 < ys.getD j 0) : rd ys = (0, 0, 4) := by
  rw [rd, if_neg (by omega), if_pos]
  rw [vk_eq (Nat.le_refl _) h (Or.inl rfl)]
  exact Nat.le_refl _
theorem rd_form {ys : List Int} {i : Nat} (hi : 0 < i) (hi9 : i ≤ 9) (hl : i < ys.length) (h : ∀ j, j < i → 127 < ys.getD j 0) (h0 : ys.getD i 0 = 0) : rd ys = (0, 0, 3) := by
  have hk := vk_eq (by omega) h (Or.inr (by omega))
  rw [rd, hk, if_neg, if_neg (by omega), if_pos ⟨hi, h0⟩]
  rintro ⟨h1, h2, h3⟩
  obtain rfl : i = 9 := by omega
  omega
theorem rd_num {ys : List Int} {i : Nat} (hi9 : i ≤ 9) (hl : i < ys.length) (h : ∀ j, j < i → 127 < ys.getD j 0) (h0 : ys.getD i 0 ≤ 127) (h1 : ¬ (ys.getD i 0 = 0 ∧ 0 < i)) (h9 : i = 9 → ys.getD i 0 ≤ 1) : rd ys = (loS ys (i + 1), i + 1, 0) := by
  have hk := vk_eq (by omega) h (Or.inr h0)
  rw [rd, hk, if_neg, if_neg (by omega), if_neg (fun ⟨a, b⟩ => h1 ⟨b, a⟩)]
  rintro ⟨g1, g2, g3⟩
  obtain rfl : i = 9 := by omega
  have := h9 rfl
  omega

/-- What was put is read. -/
theorem vk_vput (n : Nat) (r : List Int) : vk (vput n ++ r) + 1 = (vput n).length ∧ loS (vput n ++ r) (vput n).length = n ∧ (1 < (vput n).length → (vput n ++ r).getD ((vput n).length - 1) 0 ≠ 0) ∧ (n < 18446744073709551616 → (vput n).length = 10 → (vput n ++ r).getD 9 0 ≤ 1) := by
  have gen : ∀ (n : Nat), vk (vput n ++ r) + 1 = (vput n).length ∧ loS (vput n ++ r) (vput n).length = n ∧ ((vput n ++ r).getD ((vput n).length - 1) 0 = n / 128 ^ ((vput n).length - 1)) ∧ 128 ^ ((vput n).length - 1) ≤ max n 1 := by
    intro n
    induction n using Nat.strongRecOn with
    | _ n ih =>
      by_cases h : n < 128
      · rw [vput_lo h]
        refine ⟨?_, ?_, ?_, ?_⟩
        · simp only [vk, List.cons_append]
          rw [List.takeWhile_cons_of_neg (by simp; omega)]
          rfl
        · simp [loS]; omega
        · simp
        · simp; omega
      · obtain ⟨i1, i2, i3, i4⟩ := ih (n / 128) (by omega)
        have hp := vput_length_pos (n / 128)
        rw [vput_hi (by omega)]
        simp only [List.cons_append, List.length_cons, Nat.add_sub_cancel]
        refine ⟨?_, ?_, ?_, ?_⟩
        · unfold vk at i1 ⊢
          rw [List.takeWhile_cons_of_pos (by simp; omega), List.length_cons, i1]
        · rw [loS_cons, i2]; omega
        · have : (vput (n / 128)).length = (vput (n / 128)).length - 1 + 1 := by omega
          rw [this, List.getD_cons_succ, i3, Int.pow_succ, Int.mul_comm, ← Int.ediv_ediv_of_nonneg (by omega)]
          rfl
        · have : (vput (n / 128)).length = (vput (n / 128)).length - 1 + 1 := by omega
          rw [this, Nat.pow_succ]
          omega
  obtain ⟨g1, g2, g3, g4⟩ := gen n
  refine ⟨g1, g2, ?_, ?_⟩
  · intro hl
    rw [g3]
    have h1 : (128 : Int) ^ ((vput n).length - 1) ≤ n := by
      have h2 : 128 ^ 1 ≤ 128 ^ ((vput n).length - 1) := Nat.pow_le_pow_right (by omega) (by omega)
      have h3 : 128 ^ ((vput n).length - 1) ≤ n := by omega
      exact_mod_cast h3
    have hp : (0 : Int) < 128 ^ ((vput n).length - 1) := Int.pow_pos (by omega)
    have := (Int.le_ediv_iff_mul_le hp (a := 1) (b := (n : Int))).2 (by omega)
    omega
  · intro hn hl
    rw [hl] at g3
    rw [g3]
    have : (128 : Int) ^ (10 - 1) = 9223372036854775808 := by decide
    rw [this]
    omega

/-- What is read has just these bytes. -/
theorem rd_back : ∀ (k : Nat) (ys : List Int), (∀ j, 0 ≤ ys.getD j 0 ∧ ys.getD j 0 < 256) → k < ys.length → (∀ j, j < k → 127 < ys.getD j 0) → ys.getD k 0 ≤ 127 → ¬ (0 < k ∧ ys.getD k 0 = 0) →
    vput (loS ys (k + 1)).toNat = ys.take (k + 1) ∧ (0 < k → 0 < loS ys (k + 1))
  | 0, c :: r, hw, hl, h, h0, h1 => by
    have hc := hw 0
    simp only [List.getD_cons_zero] at hc h0
    have e : loS (c :: r) (0 + 1) = c := by simp [loS]; omega
    rw [e, vput_lo (by omega)]
    simp
    omega
  | k + 1, c :: r, hw, hl, h, h0, h1 => by
    have hc := hw 0
    have hc2 := h 0 (by omega)
    simp only [List.getD_cons_zero] at hc hc2
    have hwr : ∀ j, 0 ≤ r.getD j 0 ∧ r.getD j 0 < 256 := fun j => by simpa using hw (j + 1)
    have hhr : ∀ j, j < k → 127 < r.getD j 0 := fun j hj => by simpa using h (j + 1) (by omega)
    have h0r : r.getD k 0 ≤ 127 := by simpa using h0
    have hne : r.getD k 0 ≠ 0 := by
      intro e
      apply h1
      exact ⟨by omega, by simpa using e⟩
    obtain ⟨i1, i2⟩ := rd_back k r hwr (by simpa using hl) hhr h0r (fun ⟨_, e⟩ => hne e)
    have hpos : 0 < loS r (k + 1) := by
      by_cases hk : 0 < k
      · exact i2 hk
      · obtain rfl : k = 0 := by omega
        have := hwr 0
        have e : loS r (0 + 1) = r.getD 0 0 := by rw [loS, loS]; simp only [Int.pow_zero]; omega
        rw [e]; omega
    rw [loS_cons]
    have hx : (c % 128 + 128 * loS r (k + 1)).toNat / 128 = (loS r (k + 1)).toNat := by omega
    rw [vput_hi (by omega), hx, i1, List.take_succ_cons]
    refine ⟨?_, fun _ => by omega⟩
    congr 1
    omega
  | _, [], _, hl, _, _, _ => by simp at hl

theorem drop_getD {zs : List Int} {a j : Nat} : (zs.drop a).getD j 0 = zs.getD (a + j) 0 := by
  simp [List.getD_eq_getElem?_getD, List.getElem?_drop]

theorem tk_put (zs : List Int) (n : Nat) (hn : n < 18446744073709551616) : tk (zs ++ vput n) zs.length = ((n : Int), (zs.length : Int) + (vput n).length, 0) := by
  have h1 := vk_vput n []
  rw [List.append_nil] at h1
  obtain ⟨g1, g2, g3, g4⟩ := h1
  have h10 := vput_10 hn
  refine tk_ok (by simp) ?_
  rw [List.drop_left]
  have hl : vk (vput n) < (vput n).length := by omega
  have hr := rd_num (ys := vput n) (i := vk (vput n)) (by omega) hl (vk_all _) (vk_end _ hl) (fun ⟨e, hk⟩ => by
    apply g3 (by omega)
    rw [← g1]; exact e) (fun e => by rw [e]; exact g4 hn (by omega))
  rw [hr, g1, g2]

theorem tk_back {zs : List Int} (hw : ∀ j, 0 ≤ zs.getD j 0 ∧ zs.getD j 0 < 256) {a : Int} (h : (tk zs a).2.2 = 0) :
    ∃ b s : Nat, a = b ∧ (tk zs a).2.1 = ((b + s : Nat) : Int) ∧ b + s ≤ zs.length ∧ 0 ≤ (tk zs a).1 ∧ (tk zs a).1 < 18446744073709551616 ∧ vput (tk zs a).1.toNat = (zs.drop b).take s := by
  by_cases ha : a < 0 ∨ zs.length < a
  · rw [tk_arg ha] at h; exact absurd h (by decide)
  · obtain ⟨b, rfl⟩ := Int.eq_ofNat_of_zero_le (show 0 ≤ a by omega)
    have hb : b ≤ zs.length := by omega
    have hys : ∀ j, 0 ≤ (zs.drop b).getD j 0 ∧ (zs.drop b).getD j 0 < 256 := fun j => by rw [drop_getD]; exact hw _
    by_cases h1 : 9 ≤ vk (zs.drop b) ∧ 9 < (zs.drop b).length ∧ 1 < (zs.drop b).getD 9 0
    · rw [tk_err hb (f := 20) (by decide) (by rw [rd, if_pos h1])] at h; exact absurd h (by decide)
    · by_cases h2 : (zs.drop b).length ≤ vk (zs.drop b)
      · rw [tk_err hb (f := 4) (by decide) (by rw [rd, if_neg h1, if_pos h2])] at h; exact absurd h (by decide)
      · by_cases h3 : 0 < vk (zs.drop b) ∧ (zs.drop b).getD (vk (zs.drop b)) 0 = 0
        · rw [tk_err hb (f := 3) (by decide) (by rw [rd, if_neg h1, if_neg h2, if_pos h3])] at h; exact absurd h (by decide)
        · have hr : rd (zs.drop b) = (loS (zs.drop b) (vk (zs.drop b) + 1), vk (zs.drop b) + 1, 0) := by rw [rd, if_neg h1, if_neg h2, if_neg h3]
          rw [tk_ok hb hr]
          have hv := rd_back _ (zs.drop b) hys (by omega) (vk_all _) (vk_end _ (by omega)) h3
          have hbd := loS_bd (zs.drop b) (vk (zs.drop b) + 1)
          have hlen : (zs.drop b).length = zs.length - b := by simp
          refine ⟨b, vk (zs.drop b) + 1, rfl, by simp, by omega, hbd.1, ?_, hv.1⟩
          have hk9 : vk (zs.drop b) ≤ 9 := by
            rcases Nat.lt_or_ge 9 (vk (zs.drop b)) with h | h
            · have := vk_all _ 9 h
              exfalso; apply h1; exact ⟨by omega, by omega, by omega⟩
            · exact h
          by_cases e9 : vk (zs.drop b) = 9
          · rw [e9] at hbd ⊢
            have h9 : (zs.drop b).getD 9 0 ≤ 1 := by
              rcases Int.lt_or_le 1 ((zs.drop b).getD 9 0) with h | h
              · exfalso; apply h1; exact ⟨by omega, by omega, h⟩
              · exact h
            have h9' := hys 9
            have := loS_bd (zs.drop b) 9
            rw [show (9 + 1) = Nat.succ 9 from rfl, loS]
            have e1 : (128 : Int) ^ 9 = 9223372036854775808 := by decide
            rw [e1] at this ⊢
            omega
          · have : (128 : Int) ^ (vk (zs.drop b) + 1) ≤ 128 ^ 9 := by
              have : 128 ^ (vk (zs.drop b) + 1) ≤ 128 ^ 9 := Nat.pow_le_pow_right (by omega) (by omega)
              exact_mod_cast this
            have e1 : (128 : Int) ^ 9 = 9223372036854775808 := by decide
            omega

theorem tk_codes (zs : List Int) (a : Int) : (tk zs a).2.2 = 0 ∨ (tk zs a).2.2 = 2 ∨ (tk zs a).2.2 = 3 ∨ (tk zs a).2.2 = 4 ∨ (tk zs a).2.2 = 20 := by
  have hr : ∀ ys, (rd ys).2.2 = 0 ∨ (rd ys).2.2 = 3 ∨ (rd ys).2.2 = 4 ∨ (rd ys).2.2 = 20 := by
    intro ys
    unfold rd
    split
    · simp
    · split
      · simp
      · split <;> simp
  unfold tk
  split
  · simp
  · split
    · simp
    · have := hr (zs.drop a.toNat)
      simp only
      omega
end Go.Proofs.Ytjlbeglnflcjmaa
