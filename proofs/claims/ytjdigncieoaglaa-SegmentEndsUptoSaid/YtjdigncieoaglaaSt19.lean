/- Bits of u64 in sums; Walks of package fixed: Take; Walks of package fixed and its reference: Take for all arguments; Walks of the reference of package fixed: Take; Walks of package fixed: TakeText for all arguments -/
import Derived.Test.YtjdigncieoaglaaSt1
import Derived.Test.YtjdigncieoaglaaSt8
import Derived.Laws.BitsAllLaws
set_option linter.unusedSimpArgs false
set_option linter.unusedVariables false
namespace Go.Proofs.Ytjdigncieoaglaa
set_option linter.unusedVariables false

theorem pow256 (k : Nat) : (2 : Int) ^ (8 * k) = 256 ^ k := by rw [Int.pow_mul]; rfl

theorem or_shift (x c : Int) (k : Nat) (hx0 : 0 ≤ x) (hx : x < 256 ^ k) (hc0 : 0 ≤ c) (hc : c < 256) (hk : k ≤ 7) :
    bits .or .u64 x (IntKind.u64.wrap (IntKind.u64.wrap c * 2 ^ (8 * k))) = x + c * 256 ^ k := by
  rw [wrap_u64_in (x := c) hc0 (by omega), pow256]
  obtain ⟨n, rfl⟩ := Int.eq_ofNat_of_zero_le hx0
  obtain ⟨m, rfl⟩ := Int.eq_ofNat_of_zero_le hc0
  have hp : (256 : Int) ^ k = ((256 ^ k : Nat) : Int) := by simp
  have h7 : (256 : Nat) ^ k ≤ 72057594037927936 := by
    have : (256 : Nat) ^ k ≤ 256 ^ 7 := Nat.pow_le_pow_right (by omega) hk
    omega
  have hm : m * 256 ^ k ≤ 255 * 256 ^ k := Nat.mul_le_mul_right _ (by omega)
  have hn : n < 256 ^ k := by rw [hp] at hx; omega
  rw [hp, wrap_u64_in (by omega) (by rw [← Int.natCast_mul]; omega), ← Int.natCast_mul]
  rw [u64_or_nat n (m * 256 ^ k) (by omega) (by omega)]
  have e : n ||| m * 256 ^ k = n + m * 256 ^ k := by
    have := Nat.two_pow_add_eq_or_of_lt (i := 8 * k) (b := n) (by rw [Nat.pow_mul]; exact hn) m
    rw [Nat.pow_mul] at this
    rw [Nat.or_comm, Nat.mul_comm m, show (256 : Nat) = 2 ^ 8 from rfl, ← this, Nat.add_comm]
  rw [e]; rfl
end Go.Proofs.Ytjdigncieoaglaa

namespace Go.Proofs.Ytjdigncieoaglaa
set_option linter.unusedVariables false
open Go.RowKit

theorem take_walk (b off len cap : Nat) (zs : List Int) (a s : Nat) (w : World) (hz : len ≤ zs.length) (hlen : len ≤ maxLen) (hs1 : 1 ≤ s) (hs2 : s ≤ 8) (ha : a + s ≤ len)
    (hc : ∀ j, j < zs.length → w.cell? ⟨b, off + j, none⟩ = some (.int .u8 (zs.getD j 0))) (hw : ∀ j, 0 ≤ zs.getD j 0 ∧ zs.getD j 0 < 256) :
    Calls Try.prog 80 #[.slice (some ⟨b, off, none⟩) len cap, .int .i64 a, .int .i64 s] w fun e w' => e = .returned (.tuple #[.int .u64 (leN zs a s), .bool true]) ∧ w = w' := by
  have hlen' := hlen
  unfold maxLen at hlen
  have hh : holdsB len a s = true := by simp [holdsB]; omega
  have hi : isSizeB s = true := by simp [isSizeB]; omega
  go_enter Try.func80, Try.ntmps80
  go_wp2_with (first | (go_at_call 66; refine (isSize_any _ _).mono ?_; rintro e w' ⟨rfl, rfl⟩) | (go_at_call 83; refine (holds_any _ _ _ _ _ _ hlen' (by omega)).mono ?_; rintro e w' ⟨rfl, rfl⟩))
  go_loop [8, 21] (fun n i => ∃ k : Nat, k ≤ s ∧ i = .int .i64 k ∧ n = .int .u64 (leN zs a k)) (fun _ i => s - (intOf i).toNat)
  case atStart => exact ⟨0, Nat.zero_le _, rfl, rfl⟩
  case round =>
    obtain ⟨k, hk, rfl, rfl⟩ := hrel
    have hcell : k < s → w.cell? ⟨b, off + (a + k), none⟩ = some (.int .u8 (zs.getD (a + k) 0)) := fun _ => hc (a + k) (by omega)
    have hb := hw (a + k)
    have hl := leN_bd zs hw a k
    by_cases hlt : k < s
    · go_wp2
      refine ⟨⟨k + 1, by omega, rfl, ?_⟩, by simp [intOf]; omega⟩
      rw [← List.getD_eq_getElem?_getD, or_shift _ _ k hl.1 hl.2 hb.1 hb.2 (by omega)]
      rfl
    · go_wp2
      go_ret2
      have e : k = s := by omega
      subst e
      exact ⟨rfl, rfl⟩
end Go.Proofs.Ytjdigncieoaglaa

namespace Go.Proofs.Ytjdigncieoaglaa
set_option linter.unusedVariables false
open Go.RowKit

def takeB (n a s : Int) : Bool := isSizeB s && holdsB n a s
def takeN (zs : List Int) (a s : Int) : Int := if takeB zs.length a s then leN zs a.toNat s.toNat else 0

theorem take_any (p : Option Addr) (len cap : Nat) (zs : List Int) (a s : Int) (w : World) (h : Bs w p len zs) (hlen : len ≤ maxLen) (ha : -9223372036854775808 ≤ a ∧ a ≤ 9223372036854775807) :
    Calls Try.prog 80 #[.slice p len cap, .int .i64 a, .int .i64 s] w fun e w' => e = .returned (.tuple #[.int .u64 (takeN zs a s), .bool (takeB zs.length a s)]) ∧ w = w' := by
  obtain ⟨hz, hw, hp⟩ := h
  by_cases ht : takeB zs.length a s = true
  · have ht' := ht
    simp only [takeB, isSizeB, holdsB, Bool.and_eq_true, decide_eq_true_eq] at ht'
    obtain ⟨⟨s1, s2⟩, a1, a2⟩ := ht'
    obtain ⟨a, rfl⟩ := Int.eq_ofNat_of_zero_le a1
    obtain ⟨s, rfl⟩ := Int.eq_ofNat_of_zero_le (show 0 ≤ s by omega)
    rcases hp with h0 | ⟨b, off, rfl, hc⟩
    · omega
    · rw [takeN, if_pos ht, ht]
      exact take_walk b off len cap zs a s w (by omega) hlen (by omega) (by omega) (by omega) (fun j hj => hc j (by omega)) hw
  · have ht' : takeB zs.length a s = false := by simpa using ht
    rw [takeN, if_neg ht, ht']
    have hlen' := hlen
    unfold maxLen at hlen
    unfold takeB at ht'
    rw [hz] at ht'
    clear ht hp hw hz
    by_cases h1 : isSizeB s = true
    · have h2 : holdsB len a s = false := by simpa [h1] using ht'
      have hs : 0 ≤ s ∧ s ≤ 300 := by simp [isSizeB] at h1; omega
      clear ht'
      go_enter Try.func80, Try.ntmps80
      go_wp2_with (first | (go_at_call 66; refine (isSize_any _ _).mono ?_; rintro e w' ⟨rfl, rfl⟩) | (go_at_call 83; refine (holds_any _ _ _ _ _ _ hlen' hs).mono ?_; rintro e w' ⟨rfl, rfl⟩))
      go_ret2
      exact ⟨rfl, rfl⟩
    · have h2 : isSizeB s = false := by simpa using h1
      clear ht' h1
      go_enter Try.func80, Try.ntmps80
      go_wp2_with (first | (go_at_call 66; refine (isSize_any _ _).mono ?_; rintro e w' ⟨rfl, rfl⟩) | (go_at_call 83; refine (holds_any _ _ _ _ _ _ hlen' (by omega)).mono ?_; rintro e w' ⟨rfl, rfl⟩))
      go_ret2
      exact ⟨rfl, rfl⟩

theorem takeN_n (zs : List Int) (a s : Nat) (h1 : 1 ≤ s) (h8 : s ≤ 8) (h : a + s ≤ zs.length) : takeN zs (a : Int) (s : Int) = leN zs a s := by
  unfold takeN
  rw [if_pos (by simp [takeB, isSizeB, holdsB]; omega), Int.toNat_natCast, Int.toNat_natCast]
end Go.Proofs.Ytjdigncieoaglaa

namespace Go.Proofs.Ytjdigncieoaglaa
set_option linter.unusedVariables false
open Go.RowKit Go.Lib

theorem rtake_walk (b off len cap : Nat) (zs : List Int) (a s : Nat) (w : World) (hz : len ≤ zs.length) (hlen : len ≤ maxLen) (hs1 : 1 ≤ s) (hs2 : s ≤ 8) (ha : a + s ≤ len)
    (hc : ∀ j, j < zs.length → w.cell? ⟨b, off + j, none⟩ = some (.int .u8 (zs.getD j 0))) (hw : ∀ j, 0 ≤ zs.getD j 0 ∧ zs.getD j 0 < 256) :
    Calls Try.prog 42 #[.slice (some ⟨b, off, none⟩) len cap, .int .i64 a, .int .i64 s] w fun e w' => e = .returned (.tuple #[.int .u64 (leN zs a s), .bool true]) ∧ w = w' := by
  unfold maxLen at hlen
  have d1 : decide ((len : Int) - s < a) = false := by simp; omega
  have d2 : decide ((a : Int) < 0) = false := by simp
  have d3 : decide ((8 : Int) < s) = false := by simp; omega
  have d4 : decide ((s : Int) < 1) = false := by simp; omega
  go_enter Try.func42, Try.ntmps42
  go_wp2
  go_loop [8, 9] (fun n i => ∃ k : Nat, k ≤ s ∧ i = .int .i64 ((s : Int) - 1 - k) ∧ n = .int .u64 (beN zs a s k)) (fun _ i => (intOf i + 1).toNat)
  case atStart => exact ⟨0, Nat.zero_le _, by simp, rfl⟩
  case round =>
    obtain ⟨k, hk, rfl, rfl⟩ := hrel
    have hcell : k < s → w.cell? ⟨b, off + (a + (s - 1 - k)), none⟩ = some (.int .u8 (zs.getD (a + (s - 1 - k)) 0)) := fun _ => hc (a + (s - 1 - k)) (by omega)
    have hb := hw (a + (s - 1 - k))
    have hl := beN_bd zs hw a s k
    by_cases hlt : k < s
    · have e1 : s - (k + 1) + 1 = s - k := by omega
      have e2 := beN_bd zs hw a s (k + 1)
      have e3 : (256 : Int) ^ (k + 1) ≤ 18446744073709551616 := by
        have h7 : (256 : Nat) ^ (k + 1) ≤ 256 ^ 8 := Nat.pow_le_pow_right (by omega) (by omega)
        have h8 : ((256 ^ (k + 1) : Nat) : Int) ≤ ((256 ^ 8 : Nat) : Int) := by exact_mod_cast h7
        simpa using h8
      have e4 : beN zs a s (k + 1) = beN zs a s k * 256 + zs.getD (a + (s - 1 - k)) 0 := rfl
      have E : Hid (beN zs a s (k + 1) < 18446744073709551616 ∧ beN zs a s (k + 1) = beN zs a s k * 256 + zs.getD (a + (s - 1 - k)) 0) := Lib.hid ⟨by omega, e4⟩
      clear e1 e2 e3 e4
      go_wp2
      refine ⟨⟨k + 1, by omega, by congr 1; omega, ?_⟩, by simp [intOf]; omega⟩
      have e5 := E.out
      rw [← List.getD_eq_getElem?_getD, e5.2, wrap_u64_in (x := zs.getD _ _) hb.1 (by omega), wrap_u64_in (x := beN zs a s k * 256) (by omega) (by omega), wrap_u64_in (by omega) (by omega)]
    · have e : k = s := by omega
      subst e
      go_wp2
      go_ret2
      exact ⟨by rw [← beN_le zs a k]; rfl, rfl⟩

theorem rtake_any (p : Option Addr) (len cap : Nat) (zs : List Int) (a s : Int) (w : World) (h : Bs w p len zs) (hlen : len ≤ maxLen) (ha : -9223372036854775808 ≤ a ∧ a ≤ 9223372036854775807) (hs : -9223372036854775808 ≤ s ∧ s ≤ 9223372036854775807) :
    Calls Try.prog 42 #[.slice p len cap, .int .i64 a, .int .i64 s] w fun e w' => e = .returned (.tuple #[.int .u64 (takeN zs a s), .bool (takeB zs.length a s)]) ∧ w = w' := by
  obtain ⟨hz, hw, hp⟩ := h
  by_cases ht : takeB zs.length a s = true
  · have ht' := ht
    simp only [takeB, isSizeB, holdsB, Bool.and_eq_true, decide_eq_true_eq] at ht'
    obtain ⟨⟨s1, s2⟩, a1, a2⟩ := ht'
    obtain ⟨a, rfl⟩ := Int.eq_ofNat_of_zero_le a1
    obtain ⟨s, rfl⟩ := Int.eq_ofNat_of_zero_le (show 0 ≤ s by omega)
    rcases hp with h0 | ⟨b, off, rfl, hc⟩
    · omega
    · rw [takeN, if_pos ht, ht]
      exact rtake_walk b off len cap zs a s w (by omega) hlen (by omega) (by omega) (by omega) (fun j hj => hc j (by omega)) hw
  · have ht' : takeB zs.length a s = false := by simpa using ht
    rw [takeN, if_neg ht, ht']
    unfold maxLen at hlen
    simp only [takeB, isSizeB, holdsB, Bool.and_eq_false_iff, decide_eq_false_iff_not, hz] at ht'
    clear ht hp hw hz
    by_cases h1 : s < 1
    · go_enter Try.func42, Try.ntmps42
      go_wp2
      go_ret2
      exact ⟨rfl, rfl⟩
    · by_cases h2 : 8 < s
      · go_enter Try.func42, Try.ntmps42
        go_wp2
        go_ret2
        exact ⟨rfl, rfl⟩
      · by_cases h3 : a < 0
        · go_enter Try.func42, Try.ntmps42
          go_wp2
          go_ret2
          exact ⟨rfl, rfl⟩
        · have h4 : (len : Int) - s < a := by omega
          clear ht'
          go_enter Try.func42, Try.ntmps42
          go_wp2
          go_ret2
          exact ⟨rfl, rfl⟩
end Go.Proofs.Ytjdigncieoaglaa

namespace Go.Proofs.Ytjdigncieoaglaa
set_option linter.unusedVariables false
open Go.RowKit Go.Lib

/-- Is the text at place a there, whole? -/
def textB (zs : List Int) (a : Int) : Bool := takeB zs.length a 1 && holdsB zs.length (a + 1) (zs.getD a.toNat 0)
def textS (zs : List Int) (a : Int) : List Int := if textB zs a then (zs.drop (a.toNat + 1)).take (zs.getD a.toNat 0).toNat else []
def textE (zs : List Int) (a : Int) : Int := if textB zs a then a + 1 + zs.getD a.toNat 0 else 0

theorem leN_one (zs : List Int) (a : Nat) : leN zs a 1 = zs.getD a 0 := by simp [leN]

theorem text_walk (b off len cap : Nat) (zs : List Int) (a : Nat) (w : World) (h : Bs w (some ⟨b, off, none⟩) len zs) (hlc : len ≤ cap) (hcm : cap ≤ maxLen) (ht : textB zs a = true) :
    Calls Try.prog 79 #[.slice (some ⟨b, off, none⟩) len cap, .int .i64 a] w fun e w' => e = .returned (.tuple #[.string (strOfNums (textS zs a)), .int .i64 (textE zs a), .bool true]) ∧ w = w' := by
  have hz := h.len
  have hb := h.byte a
  rw [textS, if_pos ht, textE, if_pos ht, Int.toNat_natCast]
  obtain ⟨n, hn⟩ := Int.eq_ofNat_of_zero_le hb.1
  have ht' := ht
  simp only [textB, takeB, isSizeB, holdsB, Bool.and_eq_true, decide_eq_true_eq, Int.toNat_natCast] at ht'
  obtain ⟨⟨_, a1, a2⟩, a3, a4⟩ := ht'
  have ht1 : takeB zs.length a 1 = true := by simp [takeB, isSizeB, holdsB]; omega
  have ht2 : holdsB len ((a : Int) + 1) n = true := by simp [holdsB]; omega
  have hnum : takeN zs a 1 = n := by rw [takeN, if_pos ht1]; simp [leN_one]; simpa using hn
  rw [hn] at a4 hb ⊢
  have hlen : len ≤ maxLen := Nat.le_trans hlc hcm
  have hl' := hlen
  unfold maxLen at hl' hcm
  obtain ⟨o', hsl, hcv⟩ : ∃ o', (Instr.slice 23 (.slice (some ⟨b, off, none⟩) len cap) (some (.int .i64 ((a : Int) + 1))) (some (.int .i64 ((a : Int) + 1 + n))) none).run Try.prog w = .ok (.slice (some ⟨b, o', none⟩) n (cap - (a + 1))) w ∧
      (convert 23 9 (.slice (some ⟨b, o', none⟩) n (cap - (a + 1)))).run Try.prog w = .ok (.string (strOfNums ((zs.drop (a + 1)).take n))) w := by
    have hwin : Bs w (some ⟨b, if cap = a + 1 then off else off + (a + 1), none⟩) n ((zs.drop (a + 1)).take n) := by
      by_cases hc : cap = a + 1
      · obtain rfl : n = 0 := by omega
        simp only [List.take_zero]
        exact Bs.empty _ _
      · rw [if_neg hc]
        exact h.window (a + 1) n (by omega)
    have hsl := run_slice_any (P := Try.prog) w 23 5 Try.underlying23 (fun _ => by kernel_rfl) b off len cap (a + 1) (a + 1 + n) (by omega) (by omega)
    rw [show a + 1 + n - (a + 1) = n from by omega] at hsl
    exact ⟨_, hsl, hwin.run_string (P := Try.prog) 23 5 9 Try.underlying23 Try.underlying5 Try.underlying9 _⟩
  have hal : a + 1 + n ≤ len := by omega
  have hn256 : n < 256 := by omega
  have H1 := Lib.hid h
  have H2 := Lib.hid hnum
  have H3 := Lib.hid hz
  have H4 := Lib.hid ht1
  clear h hnum hz ht hn ht1 a1 a2 a3 a4 hb
  go_enter Try.func79, Try.ntmps79
  go_wp2_with fail
  refine (take_any _ _ _ zs _ _ _ H1.out hlen (by omega)).mono ?_
  rintro e w' ⟨rfl, rfl⟩
  rw [H2.out, H4.out]
  go_wp2_with (go_at_call 83; refine (holds_any _ _ _ _ _ _ hlen (by omega)).mono ?_; rintro e w' ⟨rfl, rfl⟩)
  go_ret3
  exact ⟨rfl, rfl⟩

theorem text_any (p : Option Addr) (len cap : Nat) (zs : List Int) (a : Int) (w : World) (h : Bs w p len zs) (hlc : len ≤ cap) (hcm : cap ≤ maxLen) (ha : -9223372036854775808 ≤ a ∧ a ≤ 9223372036854775807) :
    Calls Try.prog 79 #[.slice p len cap, .int .i64 a] w fun e w' => e = .returned (.tuple #[.string (strOfNums (textS zs a)), .int .i64 (textE zs a), .bool (textB zs a)]) ∧ w = w' := by
  by_cases ht : textB zs a = true
  · have ht' := ht
    simp only [textB, takeB, isSizeB, holdsB, Bool.and_eq_true, decide_eq_true_eq] at ht'
    obtain ⟨a, rfl⟩ := Int.eq_ofNat_of_zero_le ht'.1.2.1
    rw [ht]
    obtain ⟨hz, hw, hp⟩ := h
    rcases hp with h0 | ⟨b, off, rfl, hc⟩
    · omega
    · exact text_walk b off len cap zs a w ⟨hz, hw, Or.inr ⟨b, off, rfl, hc⟩⟩ hlc hcm ht
  · have ht' : textB zs a = false := by simpa using ht
    rw [textS, if_neg ht, textE, if_neg ht, ht']
    have hlen : len ≤ maxLen := Nat.le_trans hlc hcm
    have hz := h.len
    have hnil : strOfNums [] = ⟨#[]⟩ := rfl
    rw [hnil]
    clear ht
    by_cases h1 : takeB zs.length a 1 = true
    · have h1' := h1
      simp only [takeB, isSizeB, holdsB, Bool.and_eq_true, decide_eq_true_eq] at h1'
      obtain ⟨_, a1, a2⟩ := h1'
      have hb := h.byte a.toNat
      have hnum : takeN zs a 1 = zs.getD a.toNat 0 := by rw [takeN, if_pos h1]; simp [leN_one]
      have h2 : holdsB len (a + 1) (zs.getD a.toNat 0) = false := by
        rw [textB, h1, hz] at ht'; simpa using ht'
      generalize hx : zs.getD a.toNat 0 = x at *
      have hal : a < len := by omega
      have hl' := hlen
      unfold maxLen at hl'
      have H1 := Lib.hid h
      have H2 := Lib.hid hnum
      have H3 := Lib.hid hz
      have H4 := Lib.hid h1
      clear h hnum hz ht' hx h1 a2
      go_enter Try.func79, Try.ntmps79
      go_wp2_with fail
      refine (take_any _ _ _ zs _ _ _ H1.out hlen (by omega)).mono ?_
      rintro e w' ⟨rfl, rfl⟩
      rw [H2.out, H4.out]
      go_wp2_with (go_at_call 83; refine (holds_any _ _ _ _ _ _ hlen (by omega)).mono ?_; rintro e w' ⟨rfl, rfl⟩)
      go_ret3
      exact ⟨rfl, rfl⟩
    · have h1' : takeB zs.length a 1 = false := by simpa using h1
      have H1 := Lib.hid h
      have H4 := Lib.hid h1'
      clear h hz ht' h1 h1'
      go_enter Try.func79, Try.ntmps79
      go_wp2_with fail
      refine (take_any _ _ _ zs _ _ _ H1.out hlen (by omega)).mono ?_
      rintro e w' ⟨rfl, rfl⟩
      rw [H4.out]
      go_wp2_with (go_at_call 83; refine (holds_any _ _ _ _ _ _ hlen (by omega)).mono ?_; rintro e w' ⟨rfl, rfl⟩)
      go_ret3
      exact ⟨rfl, rfl⟩
end Go.Proofs.Ytjdigncieoaglaa
