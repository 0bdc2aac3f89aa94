/- Layer 10: a file on plain lists: its bytes and its changes. -/
import Derived.Test.YtapobakolnlpmaaWriL
import Derived.Test.YtapobakolnlpmaaWriM
namespace Go.Proofs.Ytapobakolnlpmaa
set_option linter.unusedVariables false

/-- a file: the bytes that last, and changes that may be lost -/
structure Fi where
  b : List Int
  l : List Ch
def nowP (x : Fi) : List Int := allP x.b x.l
def appendP (x : Fi) (b : List Int) : Fi := if 1048576 < (nowP x).length + b.length then x else if b.length = 0 then x else ⟨x.b, x.l ++ [⟨((nowP x).length : Int), false, b⟩]⟩
def appendE (x : Fi) (b : List Int) : Int := if 1048576 < (nowP x).length + b.length then 18 else 0
def cutP (x : Fi) (n : Int) : Fi := if n < 0 ∨ ((nowP x).length : Int) < n then x else ⟨x.b, x.l ++ [⟨n, true, []⟩]⟩
def cutE (x : Fi) (n : Int) : Int := if n < 0 ∨ ((nowP x).length : Int) < n then 20 else 0
def crashP (x : Fi) (ch : List Int) : Fi := ⟨surP x.b x.l ch, []⟩
def restP (x : Fi) (ch : List Int) : List Int := ch.drop x.l.length
def roomP (x : Fi) : Int := peakP x.b.length x.l
/-- sizes that the walks bear -/
def Fi.ok (x : Fi) : Prop := x.b.length ≤ 2097152 ∧ x.l.length ≤ 1048575 ∧ ∀ c ∈ x.l, c.dat.length ≤ 2097152

theorem nowP_bound {x : Fi} (h : x.ok) : (nowP x).length ≤ 2097152 := allP_bound _ _ h.1
theorem nowP_le {x : Fi} (h : x.b.length ≤ 1048576) : (nowP x).length ≤ 1048576 := by
  have h1 := allP_peak x.l x.b
  have h2 := peakP_max x.l x.b.length
  unfold nowP
  omega
theorem roomP_crash (x : Fi) (ch : List Int) : roomP (crashP x ch) ≤ roomP x := surP_peak x.l x.b ch
/-- behind a sync -/
def syncP (x : Fi) : Fi := ⟨nowP x, []⟩
theorem surP_nil (b ch : List Int) : surP b [] ch = b := by cases ch <;> rfl
theorem crash_sync (x : Fi) (ch : List Int) : crashP (syncP x) ch = syncP x := by
  unfold crashP syncP
  rw [surP_nil]
theorem now_sync (x : Fi) : nowP (syncP x) = nowP x := rfl
theorem putP_end (b d : List Int) : putP b b.length d = b ++ d := by
  unfold putP
  split
  · rename_i h; subst h; simp
  · rw [List.take_length, Nat.sub_self]
    rw [List.drop_of_length_le (by omega)]
    simp
theorem append_right {b d : List Int} (h : ¬ 1048576 < b.length + d.length) : rightP ⟨(b.length : Int), false, d⟩ = true := by
  unfold rightP
  refine decide_eq_true ⟨by simp, ?_⟩
  show (b.length : Int) ≤ 1048576 - (d.length : Int)
  omega
theorem appP_end {b d : List Int} (h : ¬ 1048576 < b.length + d.length) (m : Nat) : appP b ⟨(b.length : Int), false, d⟩ m = b ++ d.take m := by
  unfold appP
  rw [if_neg (by rw [append_right h]; simp), if_neg (by simp)]
  exact putP_end b (d.take m)
/-- appended behind a sync -/
theorem now_append (b d : List Int) (h : ¬ 1048576 < b.length + d.length) : nowP (appendP ⟨b, []⟩ d) = b ++ d := by
  unfold appendP
  rw [if_neg (by exact h)]
  by_cases h0 : d.length = 0
  · rw [if_pos h0]
    obtain rfl : d = [] := List.length_eq_zero_iff.1 h0
    simp [nowP, allP]
  · rw [if_neg h0]
    show appP b ⟨(b.length : Int), false, d⟩ d.length = b ++ d
    rw [appP_end h, List.take_length]
/-- what a crash leaves of it -/
theorem crash_append (b d ch : List Int) : ∃ k, k ≤ (b ++ d).length ∧ b.length ≤ k ∧ nowP (crashP (appendP ⟨b, []⟩ d) ch) = (b ++ d).take k := by
  have h0 : nowP (crashP ⟨b, []⟩ ch) = (b ++ d).take b.length := by
    show surP b [] ch = _
    rw [List.take_append_of_le_length (Nat.le_refl _), List.take_length, surP_nil]
  have e0 : ∃ k, k ≤ (b ++ d).length ∧ b.length ≤ k ∧ nowP (crashP ⟨b, []⟩ ch) = (b ++ d).take k := ⟨b.length, by simp, Nat.le_refl _, h0⟩
  unfold appendP
  split
  · exact e0
  · rename_i h
    split
    · exact e0
    · show ∃ k, k ≤ (b ++ d).length ∧ b.length ≤ k ∧ surP b [⟨(b.length : Int), false, d⟩] ch = (b ++ d).take k
      cases ch with
      | nil => exact ⟨b.length, by simp, Nat.le_refl _, by rw [List.take_append_of_le_length (Nat.le_refl _), List.take_length]; rfl⟩
      | cons x ch =>
        have hr : ¬ 1048576 < b.length + d.length := h
        show ∃ k, k ≤ (b ++ d).length ∧ b.length ≤ k ∧ surP (if 0 < x then appP b ⟨(b.length : Int), false, d⟩ (mostP ⟨(b.length : Int), false, d⟩ x) else b) [] ch = (b ++ d).take k
        rw [surP_nil]
        by_cases hx : 0 < x
        · rw [if_pos hx, appP_end hr]
          generalize mostP ⟨(b.length : Int), false, d⟩ x = m
          refine ⟨b.length + min m d.length, by simp; omega, Nat.le_add_right _ _, ?_⟩
          rw [List.take_append, List.take_of_length_le (l := b) (by omega), show b.length + min m d.length - b.length = min m d.length by omega]
          congr 1
          rcases Nat.le_total m d.length with hm | hm
          · rw [Nat.min_eq_left hm]
          · rw [Nat.min_eq_right hm, List.take_length, List.take_of_length_le hm]
        · rw [if_neg hx]
          exact ⟨b.length, by simp, Nat.le_refl _, by rw [List.take_append_of_le_length (Nat.le_refl _), List.take_length]⟩

theorem appendP_ok {x : Fi} {b : List Int} (h : x.ok) (hb : b.length ≤ 2097152) (hl : x.l.length ≤ 1048574) : (appendP x b).ok := by
  unfold appendP
  split
  · exact h
  · split
    · exact h
    · refine ⟨h.1, by simp; omega, fun c hc => ?_⟩
      rcases List.mem_append.1 hc with hc | hc
      · exact h.2.2 c hc
      · rw [List.mem_singleton] at hc
        subst hc
        exact hb
theorem cutP_ok {x : Fi} {n : Int} (h : x.ok) (hl : x.l.length ≤ 1048574) : (cutP x n).ok := by
  unfold cutP
  split
  · exact h
  · refine ⟨h.1, by simp; omega, fun c hc => ?_⟩
    rcases List.mem_append.1 hc with hc | hc
    · exact h.2.2 c hc
    · rw [List.mem_singleton] at hc
      subst hc
      simp
theorem crashP_ok {x : Fi} (ch : List Int) (h : x.ok) : (crashP x ch).ok := ⟨surP_bound _ _ _ h.1, by simp [crashP], fun c hc => by simp [crashP] at hc⟩
theorem syncP_ok {x : Fi} (h : x.ok) : (syncP x).ok := ⟨nowP_bound h, by simp [syncP], fun c hc => by simp [syncP] at hc⟩
end Go.Proofs.Ytapobakolnlpmaa
