/- Walks of package fixed and its reference: TakeText for all arguments. -/
import Derived.Test.YtbfkgmdlbphheaaFixW3
namespace Go.Proofs.Ytbfkgmdlbphheaa
set_option linter.unusedVariables false
open Go.RowKit Go.Lib

/-- Is the text at place a there, whole? -/
def textB (zs : List Int) (a : Int) : Bool := takeB zs.length a 1 && holdsB zs.length (a + 1) (zs.getD a.toNat 0)
def textS (zs : List Int) (a : Int) : List Int := if textB zs a then (zs.drop (a.toNat + 1)).take (zs.getD a.toNat 0).toNat else []
def textE (zs : List Int) (a : Int) : Int := if textB zs a then a + 1 + zs.getD a.toNat 0 else 0

theorem leN_one (zs : List Int) (a : Nat) : leN zs a 1 = zs.getD a 0 := by simp [leN]

theorem text_walk (b off len cap : Nat) (zs : List Int) (a : Nat) (w : World) (h : Bs w (some ⟨b, off, none⟩) len zs) (hlc : len ≤ cap) (hcm : cap ≤ maxLen) (ht : textB zs a = true) :
    Calls Try.prog 7 #[.slice (some ⟨b, off, none⟩) len cap, .int .i64 a] w fun e w' => e = .returned (.tuple #[.string (strOfNums (textS zs a)), .int .i64 (textE zs a), .bool true]) ∧ w = w' := by
  have hz := h.len
  have hb := h.byte a
  rw [textS, if_pos ht, textE, if_pos ht, Int.toNat_natCast]
  obtain ⟨n, hn⟩ := Int.eq_ofNat_of_zero_le hb.1
  have ht' := ht
  simp only [textB, takeB, isSizeB, holdsB, Bool.and_eq_true, decide_eq_true_eq, Int.toNat_natCast] at ht'
  obtain ⟨⟨_, a1, a2⟩, a3, a4⟩ := ht'
  have ht1 : takeB zs.length a 1 = true := by simp [takeB, isSizeB, holdsB]; omega
  have ht2 : holdsB len ((a : Int) + 1) n = true := by simp [holdsB]; omega
  have hnum : takeN zs a 1 = n := by rw [takeN, if_pos ht1]; simp [leN_one]; simpa using hn
  rw [hn] at a4 hb ⊢
  have hlen : len ≤ maxLen := Nat.le_trans hlc hcm
  have hl' := hlen
  unfold maxLen at hl' hcm
  obtain ⟨o', hsl, hcv⟩ : ∃ o', (Instr.slice 22 (.slice (some ⟨b, off, none⟩) len cap) (some (.int .i64 ((a : Int) + 1))) (some (.int .i64 ((a : Int) + 1 + n))) none).run Try.prog w = .ok (.slice (some ⟨b, o', none⟩) n (cap - (a + 1))) w ∧
      (convert 22 9 (.slice (some ⟨b, o', none⟩) n (cap - (a + 1)))).run Try.prog w = .ok (.string (strOfNums ((zs.drop (a + 1)).take n))) w := by
    have hwin : Bs w (some ⟨b, if cap = a + 1 then off else off + (a + 1), none⟩) n ((zs.drop (a + 1)).take n) := by
      by_cases hc : cap = a + 1
      · obtain rfl : n = 0 := by omega
        simp only [List.take_zero]
        exact Bs.empty _ _
      · rw [if_neg hc]
        exact h.window (a + 1) n (by omega)
    have hsl := run_slice_any (P := Try.prog) w 22 5 Try.underlying22 (fun _ => by kernel_rfl) b off len cap (a + 1) (a + 1 + n) (by omega) (by omega)
    rw [show a + 1 + n - (a + 1) = n from by omega] at hsl
    exact ⟨_, hsl, hwin.run_string (P := Try.prog) 22 5 9 Try.underlying22 Try.underlying5 Try.underlying9 _⟩
  have hal : a + 1 + n ≤ len := by omega
  have hn256 : n < 256 := by omega
  have H1 := Lib.hid h
  have H2 := Lib.hid hnum
  have H3 := Lib.hid hz
  have H4 := Lib.hid ht1
  clear h hnum hz ht hn ht1 a1 a2 a3 a4 hb
  go_enter Try.func7, Try.ntmps7
  go_wp2_with fail
  refine (take_any _ _ _ zs _ _ _ H1.out hlen (by omega)).mono ?_
  rintro e w' ⟨rfl, rfl⟩
  rw [H2.out, H4.out]
  go_wp2_with (go_at_call 14; refine (holds_any _ _ _ _ _ _ hlen (by omega)).mono ?_; rintro e w' ⟨rfl, rfl⟩)
  go_ret3
  exact ⟨rfl, rfl⟩

theorem text_any (p : Option Addr) (len cap : Nat) (zs : List Int) (a : Int) (w : World) (h : Bs w p len zs) (hlc : len ≤ cap) (hcm : cap ≤ maxLen) (ha : -9223372036854775808 ≤ a ∧ a ≤ 9223372036854775807) :
    Calls Try.prog 7 #[.slice p len cap, .int .i64 a] w fun e w' => e = .returned (.tuple #[.string (strOfNums (textS zs a)), .int .i64 (textE zs a), .bool (textB zs a)]) ∧ w = w' := by
  by_cases ht : textB zs a = true
  · have ht' := ht
    simp only [textB, takeB, isSizeB, holdsB, Bool.and_eq_true, decide_eq_true_eq] at ht'
    obtain ⟨a, rfl⟩ := Int.eq_ofNat_of_zero_le ht'.1.2.1
    rw [ht]
    obtain ⟨hz, hw, hp⟩ := h
    rcases hp with h0 | ⟨b, off, rfl, hc⟩
    · omega
    · exact text_walk b off len cap zs a w ⟨hz, hw, Or.inr ⟨b, off, rfl, hc⟩⟩ hlc hcm ht
  · have ht' : textB zs a = false := by simpa using ht
    rw [textS, if_neg ht, textE, if_neg ht, ht']
    have hlen : len ≤ maxLen := Nat.le_trans hlc hcm
    have hz := h.len
    have hnil : strOfNums [] = ⟨#[]⟩ := rfl
    rw [hnil]
    clear ht
    by_cases h1 : takeB zs.length a 1 = true
    · have h1' := h1
      simp only [takeB, isSizeB, holdsB, Bool.and_eq_true, decide_eq_true_eq] at h1'
      obtain ⟨_, a1, a2⟩ := h1'
      have hb := h.byte a.toNat
      have hnum : takeN zs a 1 = zs.getD a.toNat 0 := by rw [takeN, if_pos h1]; simp [leN_one]
      have h2 : holdsB len (a + 1) (zs.getD a.toNat 0) = false := by
        rw [textB, h1, hz] at ht'; simpa using ht'
      generalize hx : zs.getD a.toNat 0 = x at *
      have hal : a < len := by omega
      have hl' := hlen
      unfold maxLen at hl'
      have H1 := Lib.hid h
      have H2 := Lib.hid hnum
      have H3 := Lib.hid hz
      have H4 := Lib.hid h1
      clear h hnum hz ht' hx h1 a2
      go_enter Try.func7, Try.ntmps7
      go_wp2_with fail
      refine (take_any _ _ _ zs _ _ _ H1.out hlen (by omega)).mono ?_
      rintro e w' ⟨rfl, rfl⟩
      rw [H2.out, H4.out]
      go_wp2_with (go_at_call 14; refine (holds_any _ _ _ _ _ _ hlen (by omega)).mono ?_; rintro e w' ⟨rfl, rfl⟩)
      go_ret3
      exact ⟨rfl, rfl⟩
    · have h1' : takeB zs.length a 1 = false := by simpa using h1
      have H1 := Lib.hid h
      have H4 := Lib.hid h1'
      clear h hz ht' h1 h1'
      go_enter Try.func7, Try.ntmps7
      go_wp2_with fail
      refine (take_any _ _ _ zs _ _ _ H1.out hlen (by omega)).mono ?_
      rintro e w' ⟨rfl, rfl⟩
      rw [H4.out]
      go_wp2_with (go_at_call 14; refine (holds_any _ _ _ _ _ _ hlen (by omega)).mono ?_; rintro e w' ⟨rfl, rfl⟩)
      go_ret3
      exact ⟨rfl, rfl⟩

theorem rtext_walk (b off len cap : Nat) (zs : List Int) (a : Nat) (w : World) (h : Bs w (some ⟨b, off, none⟩) len zs) (hlc : len ≤ cap) (hcm : cap ≤ maxLen) (ha : a < len) :
    Calls Try.prog 8 #[.slice (some ⟨b, off, none⟩) len cap, .int .i64 a] w fun e w' => e = .returned (.tuple #[.string (strOfNums (textS zs a)), .int .i64 (textE zs a), .bool (textB zs a)]) ∧ w = w' := by
  have hz := h.len
  have hb := h.byte a
  have hcell : w.cell? ⟨b, off + a, none⟩ = some (.int .u8 (zs.getD a 0)) := by
    obtain ⟨_, _, hp⟩ := h
    rcases hp with h0 | ⟨b', off', hp, hc⟩
    · omega
    · simp only [Option.some.injEq, Addr.mk.injEq, and_true] at hp
      obtain ⟨rfl, rfl⟩ := hp
      exact hc a ha
  have hl' := hcm
  unfold maxLen at hl'
  obtain ⟨n, hn⟩ := Int.eq_ofNat_of_zero_le hb.1
  have htB : textB zs a = decide ((n : Int) ≤ len - (a + 1)) := by
    rw [Bool.eq_iff_iff, decide_eq_true_iff]
    simp only [textB, takeB, isSizeB, holdsB, Bool.and_eq_true, decide_eq_true_eq, Int.toNat_natCast, hn, hz]
    omega
  have hn256 : n < 256 := by omega
  rw [textS, textE, htB, Int.toNat_natCast, hn]
  rw [hn] at hcell
  obtain ⟨o', hsl, hcut⟩ : ∃ o', (Instr.slice 22 (.slice (some ⟨b, off, none⟩) len cap) (some (.int .i64 ((a : Int) + 1))) none none).run Try.prog w = .ok (.slice (some ⟨b, o', none⟩) (len - (a + 1)) (cap - (a + 1))) w ∧
      Bs w (some ⟨b, o', none⟩) (len - (a + 1)) (zs.drop (a + 1)) :=
    ⟨_, run_slice_from (P := Try.prog) w 22 5 Try.underlying22 (fun _ => by kernel_rfl) b off len cap (a + 1) (by omega), h.drop (a + 1) cap (by omega) hlc⟩
  clear h hb
  have hnil : strOfNums [] = ⟨#[]⟩ := rfl
  by_cases hle : (n : Int) ≤ len - (a + 1)
  · have hto := run_slice_to (P := Try.prog) w 22 5 Try.underlying22 (fun _ => by kernel_rfl) b o' (len - (a + 1)) (cap - (a + 1)) n (by omega)
    have hcv := (hcut.take n (by omega)).run_string (P := Try.prog) 22 5 9 Try.underlying22 Try.underlying5 Try.underlying9 (cap - (a + 1))
    have ed : decide ((n : Int) ≤ len - (a + 1)) = true := by simpa using hle
    simp only [ed, if_true]
    have H1 := Lib.hid hz
    have H2 := Lib.hid htB
    clear hz htB hn hcut ed
    go_enter Try.func8, Try.ntmps8
    go_wp2
    go_ret3
    exact ⟨rfl, rfl⟩
  · have ed : decide ((n : Int) ≤ len - (a + 1)) = false := by simpa using hle
    simp only [ed, Bool.false_eq_true, if_false, hnil]
    have H1 := Lib.hid hz
    have H2 := Lib.hid htB
    clear hz htB hn hcut ed
    go_enter Try.func8, Try.ntmps8
    go_wp2
    go_ret3
    exact ⟨rfl, rfl⟩

theorem rtext_any (p : Option Addr) (len cap : Nat) (zs : List Int) (a : Int) (w : World) (h : Bs w p len zs) (hlc : len ≤ cap) (hcm : cap ≤ maxLen) :
    Calls Try.prog 8 #[.slice p len cap, .int .i64 a] w fun e w' => e = .returned (.tuple #[.string (strOfNums (textS zs a)), .int .i64 (textE zs a), .bool (textB zs a)]) ∧ w = w' := by
  by_cases hin : 0 ≤ a ∧ a < len
  · obtain ⟨a, rfl⟩ := Int.eq_ofNat_of_zero_le hin.1
    obtain ⟨hz, hw, hp⟩ := h
    rcases hp with h0 | ⟨b, off, rfl, hc⟩
    · omega
    · exact rtext_walk b off len cap zs a w ⟨hz, hw, Or.inr ⟨b, off, rfl, hc⟩⟩ hlc hcm (by omega)
  · have hz := h.len
    have ht : textB zs a = false := by
      simp only [textB, takeB, isSizeB, holdsB, Bool.and_eq_false_iff, decide_eq_false_iff_not, hz]
      omega
    have hnil : strOfNums [] = ⟨#[]⟩ := rfl
    simp only [textS, textE, ht, Bool.false_eq_true, if_false, hnil]
    have hl' := Nat.le_trans hlc hcm
    unfold maxLen at hl'
    clear h hz ht hcm
    by_cases h1 : a < 0
    · go_enter Try.func8, Try.ntmps8
      go_wp2
      go_ret3
      exact ⟨rfl, rfl⟩
    · have h2 : len ≤ a := by omega
      clear hin
      go_enter Try.func8, Try.ntmps8
      go_wp2
      go_ret3
      exact ⟨rfl, rfl⟩
end Go.Proofs.Ytbfkgmdlbphheaa
