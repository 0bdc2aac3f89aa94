/- float64 on plain numbers: the share of two whole numbers, rounded; how shares stand to each other. -/
import Derived.Test.YtfnhhkbjbjlckaaFloR
namespace Go.Proofs.Ytfnhhkbjbjlckaa
set_option linter.unusedVariables false
open Ieee

theorem rne_scale (N D c : Nat) (hc : 0 < c) : rne (N * c) (D * c) = rne N D := by
  unfold rne
  rw [Nat.mul_div_mul_right _ _ hc, Nat.mul_mod_mul_right]
  have e1 : decide (D * c < 2 * (N % D * c)) = decide (D < 2 * (N % D)) := by
    rw [decide_eq_decide, ← Nat.mul_assoc]
    exact ⟨fun h => Nat.lt_of_mul_lt_mul_right h, fun h => Nat.mul_lt_mul_of_pos_right h hc⟩
  have e2 : (D * c == 2 * (N % D * c)) = (D == 2 * (N % D)) := by
    rw [Bool.eq_iff_iff, beq_iff_eq, beq_iff_eq, ← Nat.mul_assoc]
    exact ⟨fun h => Nat.eq_of_mul_eq_mul_right hc h, fun h => congrArg (· * c) h⟩
  rw [e1, e2]
/-- with a digit that tells whether anything is left -/
theorem rne_sticky (D n h : Nat) (hn : 0 < n) (hh : 0 < h) : rne (2 * (D / n) + (D % n != 0).toNat) (2 * (2 * h)) = rne D (n * (2 * h)) := by
  have hlt : D % n < n := Nat.mod_lt _ hn
  have hD : D = n * (D / n) + D % n := (Nat.div_add_mod D n).symm
  generalize D / n = T at *
  generalize D % n = r at *
  have hg : 0 < 2 * h := by omega
  have hs : (r != 0).toNat = if r = 0 then 0 else 1 := by by_cases h0 : r = 0 <;> simp [h0]
  rw [hs]
  have hu : T % (2 * h) < 2 * h := Nat.mod_lt _ hg
  have hT : T = 2 * h * (T / (2 * h)) + T % (2 * h) := (Nat.div_add_mod T (2 * h)).symm
  generalize T / (2 * h) = q at *
  generalize T % (2 * h) = u at *
  have a1 : D = n * (2 * h) * q + (n * u + r) := by rw [hD, hT, Nat.mul_add, ← Nat.mul_assoc, Nat.add_assoc]
  have b1 : n * u + r < n * (2 * h) := by
    have : n * (u + 1) ≤ n * (2 * h) := Nat.mul_le_mul_left n (by omega)
    rw [Nat.mul_add, Nat.mul_one] at this; omega
  have a2 : D / (n * (2 * h)) = q := by rw [a1, Nat.mul_add_div (Nat.mul_pos hn hg), Nat.div_eq_of_lt b1, Nat.add_zero]
  have a3 : D % (n * (2 * h)) = n * u + r := by rw [a1, Nat.mul_add_mod, Nat.mod_eq_of_lt b1]
  have c1 : 2 * T + (if r = 0 then 0 else 1) = 2 * (2 * h) * q + (2 * u + (if r = 0 then 0 else 1)) := by
    rw [hT, Nat.mul_add, ← Nat.mul_assoc, Nat.add_assoc]
  have b2 : 2 * u + (if r = 0 then 0 else 1) < 2 * (2 * h) := by split <;> omega
  have c2 : (2 * T + (if r = 0 then 0 else 1)) / (2 * (2 * h)) = q := by rw [c1, Nat.mul_add_div (by omega), Nat.div_eq_of_lt b2, Nat.add_zero]
  have c3 : (2 * T + (if r = 0 then 0 else 1)) % (2 * (2 * h)) = 2 * u + (if r = 0 then 0 else 1) := by rw [c1, Nat.mul_add_mod, Nat.mod_eq_of_lt b2]
  unfold rne
  rw [a2, a3, c2, c3]
  have e1 : decide (2 * (2 * h) < 2 * (2 * u + (if r = 0 then 0 else 1))) = decide (n * (2 * h) < 2 * (n * u + r)) := by
    rw [decide_eq_decide]
    by_cases hr : r = 0
    · subst hr
      rw [if_pos rfl, show n * (2 * h) = n * h * 2 by rw [Nat.mul_comm 2 h, Nat.mul_assoc], show 2 * (n * u + 0) = n * u * 2 by omega]
      constructor
      · intro hlt2
        have : n * h < n * u := Nat.mul_lt_mul_of_pos_left (by omega) hn
        omega
      · intro hlt2
        have : n * h < n * u := by omega
        have := Nat.lt_of_mul_lt_mul_left this
        omega
    · rw [if_neg hr, show n * (2 * h) = n * h * 2 by rw [Nat.mul_comm 2 h, Nat.mul_assoc]]
      constructor
      · intro hlt2
        have h3 : h ≤ u := by omega
        have : n * h ≤ n * u := Nat.mul_le_mul_left n h3
        omega
      · intro hlt2
        rcases Nat.lt_or_ge u h with h3 | h3
        · have : n * (u + 1) ≤ n * h := Nat.mul_le_mul_left n h3
          rw [Nat.mul_add, Nat.mul_one] at this
          omega
        · omega
  have e2 : (2 * (2 * h) == 2 * (2 * u + (if r = 0 then 0 else 1))) = (n * (2 * h) == 2 * (n * u + r)) := by
    rw [Bool.eq_iff_iff, beq_iff_eq, beq_iff_eq]
    by_cases hr : r = 0
    · subst hr
      rw [if_pos rfl, show n * (2 * h) = n * h * 2 by rw [Nat.mul_comm 2 h, Nat.mul_assoc], show 2 * (n * u + 0) = n * u * 2 by omega]
      constructor
      · intro h3
        have : h = u := by omega
        rw [this]
      · intro h3
        have : n * h = n * u := by omega
        have := Nat.eq_of_mul_eq_mul_left hn this
        omega
    · rw [if_neg hr, show n * (2 * h) = n * h * 2 by rw [Nat.mul_comm 2 h, Nat.mul_assoc]]
      constructor
      · intro h3; omega
      · intro h3
        exfalso
        rcases Nat.lt_or_ge u h with h4 | h4
        · have : n * (u + 1) ≤ n * h := Nat.mul_le_mul_left n h4
          rw [Nat.mul_add, Nat.mul_one] at this
          omega
        · have : n * h ≤ n * u := Nat.mul_le_mul_left n h4
          omega
  rw [e1, e2]
/-- rounding keeps order -/
theorem rne_mono {a b c d : Nat} (hb : 0 < b) (hd : 0 < d) (h : a * d ≤ c * b) : rne a b ≤ rne c d := by
  have ha := Nat.div_add_mod a b
  have hc := Nat.div_add_mod c d
  have la := Nat.mod_lt a hb
  have lc := Nat.mod_lt c hd
  unfold rne
  generalize a / b = p at *
  generalize a % b = r at *
  generalize c / d = q at *
  generalize c % d = t at *
  have hpq : p ≤ q := by
    rcases Nat.lt_or_ge q p with h1 | h1
    · exfalso
      have e1 : a * d ≥ b * p * d := Nat.mul_le_mul_right d (by omega)
      have e2 : c * b < d * (q + 1) * b := Nat.mul_lt_mul_of_pos_right (by rw [Nat.mul_add]; omega) hb
      have e3 : d * (q + 1) * b ≤ d * p * b := Nat.mul_le_mul_right b (Nat.mul_le_mul_left d h1)
      have e4 : d * p * b = b * p * d := by rw [Nat.mul_comm d p, Nat.mul_comm b p, Nat.mul_assoc, Nat.mul_assoc, Nat.mul_comm d b]
      omega
    · exact h1
  rcases Nat.lt_or_ge p q with h1 | h1
  · have := Bool.toNat_le (decide (b < 2 * r) || (b == 2 * r && p % 2 == 1))
    omega
  · obtain rfl : p = q := by omega
    have hrt : r * d ≤ t * b := by
      have e1 : a * d = b * p * d + r * d := by rw [← ha, Nat.add_mul]
      have e2 : c * b = d * p * b + t * b := by rw [← hc, Nat.add_mul]
      have e4 : d * p * b = b * p * d := by rw [Nat.mul_comm d p, Nat.mul_comm b p, Nat.mul_assoc, Nat.mul_assoc, Nat.mul_comm d b]
      omega
    by_cases hx : (decide (b < 2 * r) || (b == 2 * r && p % 2 == 1)) = true
    · have hy : (decide (d < 2 * t) || (d == 2 * t && p % 2 == 1)) = true := by
        simp only [Bool.or_eq_true, Bool.and_eq_true, decide_eq_true_eq, beq_iff_eq] at hx ⊢
        have k1 : b * d ≤ 2 * r * d ∧ (b < 2 * r → b * d < 2 * r * d) := by
          constructor
          · exact Nat.mul_le_mul_right d (by omega)
          · intro h3; exact Nat.mul_lt_mul_of_pos_right h3 hd
        have k2 : 2 * r * d ≤ 2 * t * b := by rw [Nat.mul_assoc, Nat.mul_assoc]; omega
        rcases hx with hx | hx
        · left
          have : d * b < 2 * t * b := by rw [Nat.mul_comm d b]; have := k1.2 hx; omega
          exact Nat.lt_of_mul_lt_mul_right this
        · have h5 : d * b ≤ 2 * t * b := by rw [Nat.mul_comm d b]; omega
          have h6 := Nat.le_of_mul_le_mul_right h5 hb
          rcases Nat.lt_or_ge d (2 * t) with h7 | h7
          · exact Or.inl h7
          · exact Or.inr ⟨by omega, hx.2⟩
      rw [hx, hy]
      exact Nat.le_refl _
    · have hx' : (decide (b < 2 * r) || (b == 2 * r && p % 2 == 1)) = false := by simpa using hx
      rw [hx']
      simp

/-- a small whole number: just itself -/
theorem fi_small {a : Nat} (h1 : 1 ≤ a) (h2 : a ≤ 1073741824) : a.log2 ≤ 30 ∧ 4503599627370496 ≤ a * 2 ^ (52 - a.log2) ∧ a * 2 ^ (52 - a.log2) < 9007199254740992 ∧ double.read (fi (a : Int)) = .number false (a * 2 ^ (52 - a.log2)) ((a.log2 : Int) - 52) := by
  have hn : a ≠ 0 := by omega
  have hl : a.log2 ≤ 30 := by
    have := (Nat.log2_lt hn).2 (show a < 2 ^ 31 by rw [show (2 : Nat) ^ 31 = 2147483648 by decide]; omega)
    omega
  have hlo : 2 ^ a.log2 ≤ a := Nat.log2_self_le hn
  have hhi : a < 2 ^ (a.log2 + 1) := Nat.lt_log2_self
  have p1 : 2 ^ a.log2 * 2 ^ (52 - a.log2) = 4503599627370496 := by rw [← Nat.pow_add, show a.log2 + (52 - a.log2) = 52 by omega]
  have p2 : 2 ^ (a.log2 + 1) * 2 ^ (52 - a.log2) = 9007199254740992 := by rw [← Nat.pow_add, show a.log2 + 1 + (52 - a.log2) = 53 by omega]
  have b1 := Nat.mul_le_mul_right (2 ^ (52 - a.log2)) hlo
  have b2 := Nat.mul_lt_mul_of_pos_right hhi (Nat.two_pow_pos (52 - a.log2))
  rw [p1] at b1
  rw [p2] at b2
  have e := near_small false a 0 (a.log2 + 1022) hn (by omega) (by omega) (by omega)
  have hf : fi (a : Int) = double.nearest false a 0 := by
    rw [fi_is, show decide ((a : Int) < 0) = false by simp, Int.natAbs_natCast]
  have hr := frg_read_norm (s := false) b1 b2 (u := a.log2 + 1022) (by omega) (x := fi (a : Int)) (by rw [hf, e])
  refine ⟨hl, b1, b2, ?_⟩
  rw [hr, show (-1074 : Int) + ((a.log2 + 1022 : Nat) : Int) = (a.log2 : Int) - 52 by omega]

/-- the share: S tells its binade -/
theorem fdiv_frac {a b : Nat} (ha : 1 ≤ a) (hab : a ≤ b) (hb : b ≤ 1073741824) : ∃ S, 52 ≤ S ∧ S ≤ 82 ∧ 4503599627370496 * b ≤ a * 2 ^ S ∧ a * 2 ^ S < 9007199254740992 * b ∧
    double.div (fi (a : Int)) (fi (b : Int)) = some ((1074 - S) * 4503599627370496 + rne (a * 2 ^ S) b) := by
  obtain ⟨la, A1, A2, ra⟩ := fi_small ha (by omega)
  obtain ⟨lb, B1, B2, rb⟩ := fi_small (a := b) (by omega) hb
  obtain ⟨A, hA⟩ : ∃ A, a * 2 ^ (52 - a.log2) = A := ⟨_, rfl⟩
  obtain ⟨B, hB⟩ : ∃ B, b * 2 ^ (52 - b.log2) = B := ⟨_, rfl⟩
  rw [hA] at A1 A2 ra
  rw [hB] at B1 B2 rb
  obtain ⟨D, hD⟩ : ∃ D, A * 2 ^ 54 = D := ⟨_, rfl⟩
  have hD1 : 81129638414606681695789005144064 ≤ D := by rw [← hD, show (2 : Nat) ^ 54 = 18014398509481984 by decide]; omega
  have hD2 : D < 162259276829213363391578010288128 := by rw [← hD, show (2 : Nat) ^ 54 = 18014398509481984 by decide]; omega
  have hBpos : 0 < B := by omega
  have hT1 : 9007199254740992 ≤ D / B := by
    rw [Nat.le_div_iff_mul_le hBpos]; omega
  have hT2 : D / B < 36028797018963968 := by
    rw [Nat.div_lt_iff_lt_mul hBpos]; omega
  have hs : (D % B != 0).toNat ≤ 1 := Bool.toNat_le _
  -- the quotient as a datum
  have hq : Datum.quotient (double.fractionBits + 2) (.number false A ((a.log2 : Int) - 52)) (.number false B ((b.log2 : Int) - 52)) = some (.number false (2 * (D / B) + (D % B != 0).toNat) ((a.log2 : Int) - 52 - ((b.log2 : Int) - 52) - 54 - 1)) := by
    have lA : A.log2 = 52 := log2_of (by rw [show (2 : Nat) ^ 52 = 4503599627370496 by decide]; exact A1) (by rw [show (2 : Nat) ^ (52 + 1) = 9007199254740992 by decide]; exact A2)
    have lB : B.log2 = 52 := log2_of (by rw [show (2 : Nat) ^ 52 = 4503599627370496 by decide]; exact B1) (by rw [show (2 : Nat) ^ (52 + 1) = 9007199254740992 by decide]; exact B2)
    have e54 : double.fractionBits + 2 + 52 - 52 = 54 := by decide
    unfold Datum.quotient
    simp only [lA, lB, e54, Nat.shiftLeft_eq, hD]
    rw [if_neg (by omega)]
    rfl
  have hdiv : double.div (fi (a : Int)) (fi (b : Int)) = some (double.nearest false (2 * (D / B) + (D % B != 0).toNat) ((a.log2 : Int) - 52 - ((b.log2 : Int) - 52) - 54 - 1)) := by
    unfold Format.div
    rw [ra, rb, hq]
    rfl
  rw [hdiv]
  -- by the quotient's length
  have key : ∀ (L h : Nat), (L = 54 ∧ h = 1 ∨ L = 55 ∧ h = 2) → (2 * (D / B) + (D % B != 0).toNat).log2 = L → 4503599627370496 * (B * (2 * h)) ≤ D → D < 9007199254740992 * (B * (2 * h)) →
      ∃ S, 52 ≤ S ∧ S ≤ 82 ∧ 4503599627370496 * b ≤ a * 2 ^ S ∧ a * 2 ^ S < 9007199254740992 * b ∧
        some (double.nearest false (2 * (D / B) + (D % B != 0).toNat) ((a.log2 : Int) - 52 - ((b.log2 : Int) - 52) - 54 - 1)) = some ((1074 - S) * 4503599627370496 + rne (a * 2 ^ S) b) := by
    intro L h hLh hL hlo hhi
    obtain ⟨S, hS⟩ : ∃ S, 107 + b.log2 - a.log2 - L = S := ⟨_, rfl⟩
    obtain ⟨c, hc⟩ : ∃ c, 2 ^ (52 - b.log2) * (2 * h) = c := ⟨_, rfl⟩
    have hcp : 0 < c := by rw [← hc]; exact Nat.mul_pos (Nat.two_pow_pos _) (by omega)
    have hh : 2 * h = 2 ^ (L - 53) := by rcases hLh with ⟨h1, h2⟩ | ⟨h1, h2⟩ <;> subst h1 <;> subst h2 <;> decide
    have eB : B * (2 * h) = b * c := by rw [← hB, ← hc, Nat.mul_assoc]
    have eD : D = a * 2 ^ S * c := by
      rw [← hD, ← hA, ← hc, hh, Nat.mul_assoc a, Nat.mul_assoc a, ← Nat.pow_add, ← Nat.pow_add, ← Nat.pow_add]
      congr 2; omega
    rw [eB, eD, ← Nat.mul_assoc] at hlo
    rw [eB, eD, ← Nat.mul_assoc] at hhi
    have hlo' := Nat.le_of_mul_le_mul_right hlo hcp
    have hhi' := Nat.lt_of_mul_lt_mul_right hhi
    have hS1 : 52 ≤ S := by
      rcases Nat.lt_or_ge S 52 with h3 | h3
      · exfalso
        have h4 : 2 ^ S ≤ 2251799813685248 := by rw [show (2251799813685248 : Nat) = 2 ^ 51 by decide]; exact Nat.pow_le_pow_right (by decide) (by omega)
        have h5 : a * 2 ^ S ≤ b * 2251799813685248 := Nat.mul_le_mul hab h4
        omega
      · exact h3
    have hS2 : S ≤ 82 := by
      rcases Nat.lt_or_ge 82 S with h3 | h3
      · exfalso
        have h4 : 9671406556917033397649408 ≤ 2 ^ S := by rw [show (9671406556917033397649408 : Nat) = 2 ^ 83 by decide]; exact Nat.pow_le_pow_right (by decide) h3
        have h5 : 1 * 9671406556917033397649408 ≤ a * 2 ^ S := Nat.mul_le_mul ha h4
        omega
      · exact h3
    refine ⟨S, hS1, hS2, hlo', hhi', ?_⟩
    have hmag : 2 * (D / B) + (D % B != 0).toNat ≠ 0 := by omega
    have e := near_wide false (2 * (D / B) + (D % B != 0).toNat) ((a.log2 : Int) - 52 - ((b.log2 : Int) - 52) - 54 - 1) (1074 - S) hmag (by omega) (by rw [hL]; omega)
    have ht := rne_top (2 * (D / B) + (D % B != 0).toNat) (by omega)
    have e52 : 2 ^ ((2 * (D / B) + (D % B != 0).toNat).log2 - 52) = 2 * (2 * h) := by
      rw [hL, hh, show L - 52 = (L - 53) + 1 by omega, Nat.pow_succ, Nat.mul_comm]
    rw [e52, rne_sticky D B h hBpos (by omega)] at e ht
    have e5 : rne D (B * (2 * h)) = rne (a * 2 ^ S) b := by rw [eB, eD, rne_scale _ _ _ hcp]
    rw [e5] at e ht
    rw [e, Nat.min_eq_left (by omega)]
    rfl
  by_cases hT : D / B < 18014398509481984
  · refine key 54 1 (Or.inl ⟨rfl, rfl⟩) (log2_of (by rw [show (2 : Nat) ^ 54 = 18014398509481984 by decide]; omega) (by rw [show (2 : Nat) ^ (54 + 1) = 36028797018963968 by decide]; omega)) ?_ ?_
    · have := (Nat.le_div_iff_mul_le hBpos).1 hT1; omega
    · have := (Nat.div_lt_iff_lt_mul hBpos).1 hT; omega
  · refine key 55 2 (Or.inr ⟨rfl, rfl⟩) (log2_of (by rw [show (2 : Nat) ^ 55 = 36028797018963968 by decide]; omega) (by rw [show (2 : Nat) ^ (55 + 1) = 72057594037927936 by decide]; omega)) ?_ ?_
    · have := (Nat.le_div_iff_mul_le hBpos).1 (show 18014398509481984 ≤ D / B by omega); omega
    · have := (Nat.div_lt_iff_lt_mul hBpos).1 hT2; omega
end Go.Proofs.Ytfnhhkbjbjlckaa
