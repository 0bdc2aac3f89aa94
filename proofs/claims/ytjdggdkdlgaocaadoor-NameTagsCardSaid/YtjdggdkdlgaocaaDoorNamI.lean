/- Layer 8: decimal figures on plain numbers; the walk of File. -/
import Derived.Test.YtjdggdkdlgaocaaDoorNamH
import Derived.Test.YtjdggdkdlgaocaaDoorNamN
namespace Go.Proofs.YtjdggdkdlgaocaaDoor
set_option linter.unusedVariables false
open Go.RowKit Go.Lib

/-- the last d figures -/
def fx : Nat → Nat → List Int
  | 0, _ => []
  | d + 1, n => fx d (n / 10) ++ [((n % 10 : Nat) : Int) + 48]
theorem fx_zero : ∀ d, fx d 0 = List.replicate d 48
  | 0 => rfl
  | d + 1 => by rw [fx, fx_zero d]; simp [List.replicate_succ']
def nums8 (l : List UInt8) : List Int := l.map fun c => (c.toNat : Int)
theorem nums8_fig {d : Nat} (h : d < 10) : nums8 [UInt8.ofNat (48 + d)] = [(d : Int) + 48] := by
  simp only [nums8, List.map_cons, List.map_nil, List.cons.injEq, and_true, UInt8.toNat_ofNat']
  omega
theorem pad_dec : ∀ (d n : Nat), n < 10 ^ (d + 1) → (Lib.decDigits n).length ≤ d + 1 ∧ 1 ≤ (Lib.decDigits n).length ∧ List.replicate (d + 1 - (Lib.decDigits n).length) (48 : Int) ++ nums8 (Lib.decDigits n) = fx (d + 1) n := by
  intro d
  induction d with
  | zero =>
    intro n h
    have h10 : n < 10 := by simpa using h
    rw [Lib.decDigits, dif_pos h10]
    refine ⟨by simp, by simp, ?_⟩
    rw [nums8_fig h10]
    simp [fx]
    omega
  | succ d ih =>
    intro n h
    by_cases h10 : n < 10
    · rw [Lib.decDigits, dif_pos h10]
      refine ⟨by simp, by simp, ?_⟩
      rw [nums8_fig h10, fx, show n / 10 = 0 by omega, fx_zero]
      simp
      omega
    · obtain ⟨h1, h2, h3⟩ := ih (n / 10) (by rw [Nat.pow_succ] at h; omega)
      rw [Lib.decDigits, dif_neg h10]
      refine ⟨by rw [List.length_append]; simp; omega, by rw [List.length_append]; simp, ?_⟩
      have e : nums8 (Lib.decDigits (n / 10) ++ [UInt8.ofNat (48 + n % 10)]) = nums8 (Lib.decDigits (n / 10)) ++ [((n % 10 : Nat) : Int) + 48] := by
        rw [← nums8_fig (Nat.mod_lt n (by decide))]; simp [nums8]
      rw [e, fx, ← h3, List.length_append]
      simp
theorem fx_dig8 (n : Nat) : fx 8 n = dig8 n := by
  simp only [fx, dig8, List.nil_append, List.cons_append, List.cons.injEq, and_true]
  omega
theorem repeat_zero : ∀ c, Lib.repeatL [48] c = List.replicate c 48
  | 0 => rfl
  | c + 1 => by rw [Lib.repeatL, repeat_zero c]; rfl
theorem numsOf_mk (l : List UInt8) : numsOf ⟨l.toArray⟩ = nums8 l := rfl
theorem size_mk (l : List UInt8) : (⟨l.toArray⟩ : ByteArray).size = l.length := rfl

/-- a number's text, and what stands before it -/
theorem itoa_pad {n : Int} (h1 : 1 ≤ n) (h2 : n ≤ 99999999) : (⟨(Lib.itoa n).toArray⟩ : ByteArray).size ≤ 8 ∧
    ∀ c : Nat, 8 - ((⟨(Lib.itoa n).toArray⟩ : ByteArray).size : Int) = (c : Int) → numsOf (⟨(Lib.repeatL (⟨#[48]⟩ : ByteArray).data.toList c).toArray⟩ ++ ⟨(Lib.itoa n).toArray⟩) = dig8 n := by
  obtain ⟨m, rfl⟩ := Int.eq_ofNat_of_zero_le (show (0 : Int) ≤ n by omega)
  obtain ⟨h3, h4, h5⟩ := pad_dec 7 m (by omega)
  have e : Lib.itoa (m : Int) = Lib.decDigits m := by unfold Lib.itoa; rw [if_neg (by omega)]; rfl
  rw [e, size_mk]
  refine ⟨h3, fun c hc => ?_⟩
  rw [numsOf_append, numsOf_mk, numsOf_mk, show (⟨#[48]⟩ : ByteArray).data.toList = [48] from rfl, repeat_zero]
  have hc2 : c = 7 + 1 - (Lib.decDigits m).length := by omega
  subst hc2
  rw [show nums8 (List.replicate (7 + 1 - (Lib.decDigits m).length) 48) = List.replicate (7 + 1 - (Lib.decDigits m).length) (48 : Int) by simp [nums8], h5, fx_dig8]

theorem wrd_nums (k : Int) : numsOf (strOfNums (wrd k)) = wrd k := numsOf_strOfNums (wrd_bytes k)
theorem wrd_nil {k : Int} : wrd k = [] ↔ ¬ (1 ≤ k ∧ k ≤ 3) := by
  unfold wrd
  by_cases h1 : k = 1
  · subst h1; simp
  by_cases h2 : k = 2
  · subst h2; simp
  by_cases h3 : k = 3
  · subst h3; simp
  · rw [if_neg h1, if_neg h2, if_neg h3]; simp; omega

set_option maxRecDepth 100000 in
theorem file_ok : FileOk := by
  intro k n w hL hk hn
  have HP := Lib.hid fun W => prefix_any k W
  have hq : ((strOfNums (wrd k)).toList == []) = decide (¬ (1 ≤ k ∧ k ≤ 3)) := by
    rw [text_test _ [] [] rfl, wrd_nums, Bool.eq_iff_iff, decide_eq_true_iff, decide_eq_true_iff, wrd_nil]
  have HB0 := Lib.hid (Below.refl w.heap.size w)
  by_cases hg : filegood k n
  · have hq2 : ((strOfNums (wrd k)).toList == []) = false := by rw [hq, decide_eq_false]; exact fun h => h ⟨hg.1, hg.2.1⟩
    have n1 : ¬ n < 1 := by have := hg.2.2.1; omega
    have n2 : n ≤ 99999999 := hg.2.2.2
    obtain ⟨h8, hpad⟩ := itoa_pad hg.2.2.1 hg.2.2.2
    obtain ⟨c, hc⟩ := Int.eq_ofNat_of_zero_le (show (0 : Int) ≤ 8 - ((⟨(Lib.itoa n).toArray⟩ : ByteArray).size : Int) by omega)
    have HI := Lib.hid (itoa_any n w (by have := hn.1; omega) (by have := hn.2; omega) hL)
    have HR := Lib.hid fun W => repeat_any ⟨#[48]⟩ c W (by omega) (by rw [show (⟨#[48]⟩ : ByteArray).size = 1 from rfl]; omega)
    have HE : Hid ((strOfNums (wrd k) ++ ⟨(Lib.repeatL (⟨#[48]⟩ : ByteArray).data.toList c).toArray⟩) ++ ⟨(Lib.itoa n).toArray⟩ = strOfNums (fileP k n)) := Lib.hid (by
      apply numsOf_inj
      rw [ByteArray.append_assoc, numsOf_append, wrd_nums, hpad c hc, numsOf_strOfNums (fileP_bytes k n), fileP_good hg])
    have hz : (strOfNums (wrd k)).size ≤ 100 := by
      rw [← numsOf_length, wrd_nums]; unfold wrd; (repeat' split) <;> decide
    have hr : (⟨(Lib.repeatL (⟨#[48]⟩ : ByteArray).data.toList c).toArray⟩ : ByteArray).size ≤ 8 := by
      rw [size_mk, Lib.repeatL_length, show (⟨#[48]⟩ : ByteArray).data.toList.length = 1 from rfl]; omega
    generalize (⟨(Lib.itoa n).toArray⟩ : ByteArray) = t at *
    generalize (⟨(Lib.repeatL (⟨#[48]⟩ : ByteArray).data.toList c).toArray⟩ : ByteArray) = r at *
    generalize strOfNums (wrd k) = x at *
    have hxr : x.size + r.size ≤ 9223372036854775807 := by omega
    have hxt : (x ++ r).size + t.size ≤ 9223372036854775807 := by rw [ByteArray.size_append]; omega
    clear hpad hq hg hL
    go_enter Tryd.func13, Tryd.ntmps13
    go_wp2_with fail
    refine (HP.out _).mono ?_
    rintro e w1 ⟨rfl, rfl⟩
    go_wp2_with fail
    refine (HI.out).mono ?_
    rintro e w1 ⟨rfl, hb1⟩
    have HB1 := Lib.hid hb1
    clear hb1
    go_wp2_with fail
    refine (HR.out _).mono ?_
    rintro e w2 ⟨rfl, hb2⟩
    have HB2 := Lib.hid (below_step HB1.out hb2)
    clear hb2
    go_wp2
    go_ret
    exact ⟨by rw [← HE.out]; rfl, HB2.out⟩
  · have HE : Hid (strOfNums (fileP k n) = ⟨#[]⟩) := Lib.hid (by rw [fileP_bad hg]; rfl)
    by_cases h3 : 1 ≤ k ∧ k ≤ 3
    · have hq2 : ((strOfNums (wrd k)).toList == []) = false := by rw [hq, decide_eq_false]; exact fun h => h h3
      by_cases h1 : n < 1
      · generalize strOfNums (wrd k) = x at *
        clear hq hg hL
        go_enter Tryd.func13, Tryd.ntmps13
        go_wp2_with fail
        refine (HP.out _).mono ?_
        rintro e w1 ⟨rfl, rfl⟩
        go_wp2
        go_ret
        exact ⟨by rw [HE.out]; rfl, HB0.out⟩
      · have h2 : 99999999 < n := by unfold filegood at hg; omega
        generalize strOfNums (wrd k) = x at *
        clear hq hg hL
        go_enter Tryd.func13, Tryd.ntmps13
        go_wp2_with fail
        refine (HP.out _).mono ?_
        rintro e w1 ⟨rfl, rfl⟩
        go_wp2
        go_ret
        exact ⟨by rw [HE.out]; rfl, HB0.out⟩
    · have hq2 : ((strOfNums (wrd k)).toList == []) = true := by rw [hq, decide_eq_true]; exact h3
      generalize strOfNums (wrd k) = x at *
      clear hq hg hL
      go_enter Tryd.func13, Tryd.ntmps13
      go_wp2_with fail
      refine (HP.out _).mono ?_
      rintro e w1 ⟨rfl, rfl⟩
      go_wp2
      go_ret
      exact ⟨by rw [HE.out]; rfl, HB0.out⟩
end Go.Proofs.YtjdggdkdlgaocaaDoor
