/- Walks of package varint: Take. -/
import Derived.Test.YtjlbeglnflcjmaaVarW2
namespace Go.Proofs.Ytjlbeglnflcjmaa
set_option linter.unusedVariables false
open Go.RowKit Go.Lib

theorem wrap_n7 (k : Nat) (hk : k ≤ 9) : IntKind.i64.wrap (7 * (k : Int)) = 7 * k := by
  rw [IntWalk.i64_in] <;> omega

theorem or_group (x c : Int) (k : Nat) (hx0 : 0 ≤ x) (hx : x < 128 ^ k) (hc0 : 0 ≤ c) (hc : c < 128) (hk : k ≤ 9) (h9 : k = 9 → c ≤ 1) :
    bits .or .u64 x (IntKind.u64.wrap (c * 2 ^ (7 * k))) = x + c * 128 ^ k := by
  have e128 : (2 : Int) ^ (7 * k) = 128 ^ k := by rw [Int.pow_mul]; rfl
  rw [e128]
  obtain ⟨n, rfl⟩ := Int.eq_ofNat_of_zero_le hx0
  obtain ⟨m, rfl⟩ := Int.eq_ofNat_of_zero_le hc0
  have hp : (128 : Int) ^ k = ((128 ^ k : Nat) : Int) := by simp
  have hn : n < 128 ^ k := by rw [hp] at hx; omega
  have hmn : m * 128 ^ k + 128 ^ k ≤ 18446744073709551616 := by
    by_cases e : k = 9
    · subst e
      have := h9 rfl
      omega
    · have h8 : (128 : Nat) ^ k ≤ 128 ^ 8 := Nat.pow_le_pow_right (by omega) (by omega)
      have hm : m * 128 ^ k ≤ 127 * 128 ^ k := Nat.mul_le_mul_right _ (by omega)
      omega
  have hpos : 0 < 128 ^ k := Nat.pow_pos (by omega)
  rw [hp, wrap_u64_in (by omega) (by rw [← Int.natCast_mul]; omega), ← Int.natCast_mul]
  rw [u64_or_nat n (m * 128 ^ k) (by omega) (by omega)]
  have e : n ||| m * 128 ^ k = n + m * 128 ^ k := by
    have := Nat.two_pow_add_eq_or_of_lt (i := 7 * k) (b := n) (by rw [Nat.pow_mul]; exact hn) m
    rw [Nat.pow_mul] at this
    rw [Nat.or_comm, Nat.mul_comm m, show (128 : Nat) = 2 ^ 7 from rfl, ← this, Nat.add_comm]
  rw [e]; rfl

theorem ret_tk {n s f : Int} {r : Int × Int × Int} (h : r = (n, s, f)) : Ending.returned (.tuple #[.int .u64 n, .int .i64 s, .int .i64 f]) = .returned (.tuple #[.int .u64 r.1, .int .i64 r.2.1, .int .i64 r.2.2]) := by rw [h]

/-- The ways out of the loop over the bytes. -/
theorem tk_way20 {zs ys : List Int} {a k : Nat} {y : Int} (hys : zs.drop a = ys) (ha : a ≤ zs.length) (hk : k < ys.length) (hall : ∀ j, j < k → 127 < ys.getD j 0) (hy : ys.getD k 0 = y) (h9 : (k : Int) = 9) (h1 : 1 < y) : tk zs a = (0, 0, 20) := by
  obtain rfl : k = 9 := by omega
  exact tk_err ha (by decide) (by rw [hys]; exact rd_range hk hall (by rw [hy]; exact h1))
theorem tk_way3 {zs ys : List Int} {a k : Nat} {y : Int} (hys : zs.drop a = ys) (ha : a ≤ zs.length) (hk : k < ys.length) (hk9 : k ≤ 9) (hall : ∀ j, j < k → 127 < ys.getD j 0) (hy : ys.getD k 0 = y) (h1 : y = 0) (h0 : 0 < k) : tk zs a = (0, 0, 3) :=
  tk_err ha (by decide) (by rw [hys]; exact rd_form h0 hk9 hk hall (by rw [hy]; exact h1))
theorem tk_way0 {zs ys : List Int} {a k : Nat} {y x s : Int} (hys : zs.drop a = ys) (ha : a ≤ zs.length) (hk : k < ys.length) (hk9 : k ≤ 9) (hall : ∀ j, j < k → 127 < ys.getD j 0) (hy : ys.getD k 0 = y) (hb : 0 ≤ y) (h1 : y < 128) (h0 : y ≠ 0 ∨ k = 0) (h9 : k = 9 → y ≤ 1)
    (hx : x = bits .or .u64 (loS ys k) (IntKind.u64.wrap (y % 128 * 2 ^ (7 * k)))) (hs : s = a + (k + 1)) : tk zs a = (x, s, 0) := by
  have hl := loS_bd ys k
  have e1 : y % 128 = y := Int.emod_eq_of_lt hb h1
  rw [e1, or_group _ _ k hl.1 hl.2 hb h1 hk9 h9] at hx
  have e2 : loS ys (k + 1) = loS ys k + y * 128 ^ k := by rw [loS, hy, e1]
  have hr := rd_num hk9 hk hall (by rw [hy]; omega) (by rw [hy]; omega) (by rw [hy]; exact h9)
  have := tk_ok ha (by rw [hys]; exact hr)
  rw [this, hx, hs, e2]
  simp
theorem lo_next {ys : List Int} {k : Nat} {y : Int} (hk8 : k < 9) (hy : ys.getD k 0 = y) (hb : 0 ≤ y) (hb2 : y < 256) : bits .or .u64 (loS ys k) (IntKind.u64.wrap (y % 128 * 2 ^ (7 * k))) = loS ys (k + 1) := by
  have hl := loS_bd ys k
  rw [or_group _ _ k hl.1 hl.2 (by omega) (by omega) (by omega) (by omega), loS, hy]
theorem all_next {ys : List Int} {k : Nat} {y : Int} (hall : ∀ j, j < k → 127 < ys.getD j 0) (hy : ys.getD k 0 = y) (h : 128 ≤ y) : ∀ j, j < k + 1 → 127 < ys.getD j 0 := by
  intro j hj
  by_cases e : j < k
  · exact hall j e
  · obtain rfl : j = k := by omega
    omega

set_option maxRecDepth 100000 in
theorem vtake_walk (p : Option Addr) (len cap : Nat) (zs : List Int) (a : Nat) (w : World) (h : Bs w p len zs) (hlc : len ≤ cap) (hcm : cap ≤ maxLen) (ha : a ≤ len) (hlt : a < len) :
    Calls Try.prog 11 #[.slice p len cap, .int .i64 a] w fun e w' => e = .returned (.tuple #[.int .u64 (tk zs a).1, .int .i64 (tk zs a).2.1, .int .i64 (tk zs a).2.2]) ∧ w = w' := by
  have hzl := h.len
  unfold maxLen at hcm
  obtain ⟨p', hsl, hbs, _⟩ := h.slice_from (P := Try.prog) 22 5 Try.underlying22 (fun _ => by kernel_rfl) cap a hlc ha
  obtain ⟨b, o, rfl, hc⟩ : ∃ b o, p' = some ⟨b, o, none⟩ ∧ ∀ j, j < len - a → w.cell? ⟨b, o + j, none⟩ = some (.int .u8 ((zs.drop a).getD j 0)) := by
    rcases hbs.2.2 with h0 | h0
    · omega
    · exact h0
  have hby := hbs.byte
  have HL := Lib.hid hbs.len
  have HZL := Lib.hid hzl
  have d1 : decide ((a : Int) < 0) = false := by simp
  have d2 : decide ((len : Int) < a) = false := by simp; omega
  have d3 : decide (len < a) = false := by simp; omega
  generalize hys : zs.drop a = ys at *
  generalize hm : len - a = m at *
  have HC := Lib.hid hc
  have HB := Lib.hid hby
  have HYS := Lib.hid hys
  have hma : (a : Int) + m ≤ 9223372036854775807 := by omega
  have HA : Hid (a ≤ zs.length) := Lib.hid (by omega)
  have hmp : 0 < m := by omega
  have HM := Lib.hid hm
  clear hbs h hzl hys hby hc hm ha hlt
  go_enter Try.func11, Try.ntmps11
  go_wp2
  go_step3
  go_wp2
  go_step3
  go_wp2
  go_loop [7, 8, 9, 24] (fun n s f i => ∃ k : Nat, k ≤ m ∧ k ≤ 9 ∧ i = .int .i64 k ∧ n = .int .u64 (loS ys k) ∧ s = .int .i64 0 ∧ f = .int .i64 4 ∧ Hid (∀ j, j < k → 127 < ys.getD j 0)) (fun _ _ _ i => m - (intOf i).toNat)
  case atStart => exact ⟨0, Nat.zero_le _, by omega, rfl, rfl, rfl, rfl, Lib.hid (by omega)⟩
  case round =>
    obtain ⟨k, hkm, hk9, rfl, rfl, rfl, rfl, hall⟩ := hrel
    have hk7 := wrap_n7 k hk9
    by_cases hlt : k < m
    · obtain ⟨y, hy⟩ : ∃ y, ys.getD k 0 = y := ⟨_, rfl⟩
      have hcell := HC.out k hlt
      have hb := HB.out k
      rw [hy] at hcell hb
      have HY := Lib.hid hy
      have HK : Hid (k < ys.length) := Lib.hid (by rw [HL.out]; exact hlt)
      clear hy
      go_wp2
      · go_ret3
        exact ⟨ret_tk (tk_way20 HYS.out HA.out HK.out hall.out HY.out (by assumption) (by assumption)), rfl⟩
      · go_ret3
        exact ⟨ret_tk (tk_way3 HYS.out HA.out HK.out hk9 hall.out HY.out (by assumption) (by omega)), rfl⟩
      · go_ret3
        exact ⟨ret_tk (tk_way0 HYS.out HA.out HK.out hk9 hall.out HY.out hb.1 (by assumption) (Or.inl (by assumption)) (fun _ => by assumption) rfl (by omega)), rfl⟩
      · go_ret3
        exact ⟨ret_tk (tk_way3 HYS.out HA.out HK.out hk9 hall.out HY.out (by assumption) (by omega)), rfl⟩
      · go_ret3
        have hk0 : k = 0 := by omega
        exact ⟨ret_tk (tk_way0 HYS.out HA.out HK.out hk9 hall.out HY.out hb.1 (by omega) (Or.inr hk0) (by omega) (by rw [show y = 0 by assumption]; simp) (by omega)), rfl⟩
      · go_ret3
        exact ⟨ret_tk (tk_way0 HYS.out HA.out HK.out hk9 hall.out HY.out hb.1 (by assumption) (Or.inl (by assumption)) (by omega) rfl (by omega)), rfl⟩
      · refine ⟨⟨k + 1, by omega, by omega, by go_num, ?_, rfl, rfl, Lib.hid (all_next hall.out HY.out (by assumption))⟩, by simp [intOf]; omega⟩
        rw [lo_next (by omega) HY.out hb.1 hb.2]
    · have e : k = m := by omega
      subst e
      go_wp2
      go_ret3
      exact ⟨ret_tk (tk_err HA.out (by decide) (by rw [HYS.out]; exact rd_short (by rw [HL.out]; omega) (by rw [HL.out]; exact hall.out))), rfl⟩

theorem vtake_any (p : Option Addr) (len cap : Nat) (zs : List Int) (a : Int) (w : World) (h : Bs w p len zs) (hlc : len ≤ cap) (hcm : cap ≤ maxLen) :
    Calls Try.prog 11 #[.slice p len cap, .int .i64 a] w fun e w' => e = .returned (.tuple #[.int .u64 (tk zs a).1, .int .i64 (tk zs a).2.1, .int .i64 (tk zs a).2.2]) ∧ w = w' := by
  have hzl := h.len
  by_cases h1 : a < 0
  · have ht := tk_arg (zs := zs) (Or.inl h1)
    have HT := Lib.hid ht
    clear ht hzl h
    go_enter Try.func11, Try.ntmps11
    go_wp2
    go_step3
    go_wp2
    rw [Exit.noGoto_ret]
    go_ret3
    exact ⟨ret_tk HT.out, rfl⟩
  · obtain ⟨a, rfl⟩ := Int.eq_ofNat_of_zero_le (show 0 ≤ a by omega)
    by_cases h2 : len < a
    · have ht := tk_arg (zs := zs) (a := (a : Int)) (Or.inr (by omega))
      have HT := Lib.hid ht
      have d1 : decide ((a : Int) < 0) = false := by simp
      unfold maxLen at hcm
      clear ht hzl h h1
      go_enter Try.func11, Try.ntmps11
      go_wp2
      go_step3
      go_wp2
      rw [Exit.noGoto_ret]
      go_ret3
      exact ⟨ret_tk HT.out, rfl⟩
    · by_cases h3 : a < len
      · exact vtake_walk p len cap zs a w h hlc hcm (by omega) h3
      · obtain rfl : a = len := by omega
        obtain ⟨p', hsl, hbs, _⟩ := h.slice_from (P := Try.prog) 22 5 Try.underlying22 (fun _ => by kernel_rfl) cap a hlc (Nat.le_refl _)
        rw [Nat.sub_self] at hsl hbs
        have ht : tk zs (a : Nat) = (0, 0, 4) := tk_err (by omega) (by decide) (rd_short (by rw [hbs.len]; omega) (by rw [hbs.len]; omega))
        have HT := Lib.hid ht
        have d1 : decide ((a : Int) < 0) = false := by simp
        unfold maxLen at hcm
        clear ht hzl h h1 hbs h2 h3
        go_enter Try.func11, Try.ntmps11
        go_wp2
        go_step3
        go_wp2
        go_step3
        go_wp2
        go_loop [7, 8, 9, 24] (fun n s f i => i = .int .i64 0 ∧ n = .int .u64 0 ∧ s = .int .i64 0 ∧ f = .int .i64 4) (fun _ _ _ i => 0)
        case atStart => exact ⟨rfl, rfl, rfl, rfl⟩
        case round =>
          obtain ⟨rfl, rfl, rfl, rfl⟩ := hrel
          go_wp2
          go_ret3
          exact ⟨ret_tk HT.out, rfl⟩
end Go.Proofs.Ytjlbeglnflcjmaa
