/- Layer 9: what survives of a change. -/
import Derived.Test.YtapobakolnlpmaaWriI
import Derived.Test.YtapobakolnlpmaaWriD
namespace Go.Proofs.Ytapobakolnlpmaa
set_option linter.unusedVariables false
open Go.RowKit Go.Lib

/-- the change that is left of c by the choice x -/
def survP (c : Ch) (x : Int) : Ch := if x = 0 ∨ rightP c = false then ⟨0, false, []⟩ else if c.cut = false ∧ x ≠ 255 then { c with dat := c.dat.take x.toNat } else c
theorem survP_app (b : List Int) (c : Ch) (x : Int) (h0 : 0 ≤ x) : appP b (survP c x) (survP c x).dat.length = if 0 < x then appP b c (mostP c x) else b := by
  have hz : appP b ⟨0, false, []⟩ 0 = b := by
    unfold appP
    split
    · rfl
    · simp [putP]
  unfold survP
  by_cases hx : x = 0
  · subst hx
    rw [if_pos (Or.inl rfl), if_neg (by omega)]
    exact hz
  · have hp : 0 < x := by omega
    rw [if_pos hp]
    by_cases hr : rightP c = false
    · rw [if_pos (Or.inr hr)]
      unfold appP
      rw [if_pos hr]
      split
      · rfl
      · simp [putP]
    · rw [if_neg (fun h => h.elim hx hr)]
      by_cases hc : c.cut = false ∧ x ≠ 255
      · rw [if_pos hc]
        have hr' : rightP { c with dat := c.dat.take x.toNat } = true := by
          have : rightP c = true := by simpa using hr
          unfold rightP at this ⊢
          have h2 := of_decide_eq_true this
          refine decide_eq_true ⟨h2.1, ?_⟩
          simp only [List.length_take]
          omega
        unfold appP mostP
        rw [if_neg (by rw [hr']; simp), if_neg hr, if_neg hc.2]
        rw [if_neg (by simp [hc.1]), if_neg (by simp [hc.1])]
        rw [List.take_length]
      · rw [if_neg hc]
        unfold appP
        rw [if_neg hr, if_neg hr]
        by_cases hcut : c.cut = true
        · rw [if_pos hcut, if_pos hcut]
        · have h255 : x = 255 := by
            rcases Decidable.em (x = 255) with h | h
            · exact h
            · exact absurd ⟨by simpa using hcut, h⟩ hc
          rw [if_neg hcut, if_neg hcut]
          unfold mostP
          rw [if_pos h255]

theorem two_new (w : World) (A B : Obj) : ((w.alloc A).alloc B).heap[w.heap.size + 1]? = some B := by
  have := heap_alloc_new (w.alloc A) B
  simpa using this
theorem Cw.results {P : Program} {fn : Func} {q : Tmp} {ty : TypeId} {w : World} {g : Nat} {c : Ch} {p : Option Addr} {n cap : Nat} (hg : Cw w g c p n cap) (h : fn.results = #[.cell q ty]) (tmps : Array Value)
    (hp : tmps.getD q undef = .pointer (some ⟨g, 0, none⟩)) (d : TypeDesc) (hu : P.underlying ty = some d) (hd : (match d with | .struct _ | .array _ _ => true | _ => false) = true) (hi : (P.info? ty).map (·.size) = some 3) :
    (Go.results fn tmps).run P w = .ok (chV c p n cap) w := results_cell_row h tmps w g _ _ _ d hp hg hu hd hi

theorem cells3_stored {w : World} {g : Nat} {a0 a1 a2 : Value} {t : TypeId} (h : w.heap[g]? = some (.cells #[a0, a1, a2] t (0, 0))) (v0 v1 v2 : Value) :
    (((w.setCell ⟨g, 0, none⟩ v0).setCell ⟨g, 1, none⟩ v1).setCell ⟨g, 2, none⟩ v2).heap[g]? = some (.cells #[v0, v1, v2] t (0, 0)) := by
  rw [heap_setCell_same _ g 2 _ t v2 (heap_setCell_same _ g 1 _ t v1 (heap_setCell_same w g 0 _ t v0 h))]
  rfl
theorem cell2_stored {w : World} {g : Nat} {a0 a1 a2 : Value} {t : TypeId} (h : w.heap[g]? = some (.cells #[a0, a1, a2] t (0, 0))) (v2 : Value) :
    (w.setCell ⟨g, 2, none⟩ v2).heap[g]? = some (.cells #[a0, a1, v2] t (0, 0)) := by
  rw [heap_setCell_same _ g 2 _ t v2 h]
  rfl

set_option maxRecDepth 100000 in
set_option maxHeartbeats 1000000 in
theorem wsurvivor_zero (c : Ch) (p : Option Addr) (n cap : Nat) (x : Int) (w : World) (h : chIn w c p n cap) (hx0 : 0 ≤ x) (hx1 : x < 256) (hx : x = 0) :
    Calls Try.prog 33 #[chV c p n cap, .int .u8 x] w fun e w' => ∃ p' n' cap', e = .returned (chV (survP c x) p' n' cap') ∧ (∀ W, chIn W c p n cap → chIn W (survP c x) p' n' cap') ∧ Below w.heap.size w w' := by
  have HB0 : Hid (Below w.heap.size w (w.alloc (.cells #[.bool c.cut, .int .i64 c.off, .slice p n cap] 48))) := Lib.hid ((Below.refl _ _).alloc (Nat.le_refl _) _)
  have HC0 : Hid (Cw (w.alloc (.cells #[.bool c.cut, .int .i64 c.off, .slice p n cap] 48)) w.heap.size c p n cap) := Lib.hid (heap_alloc_new _ _)
  have HS0 : Hid (w.heap.size + 1 ≤ (w.alloc (.cells #[.bool c.cut, .int .i64 c.off, .slice p n cap] 48)).heap.size) := Lib.hid (by simp)
  have H := Lib.hid h
  subst hx
  have HF : Hid (survP c 0 = ⟨0, false, []⟩) := Lib.hid (by unfold survP; rw [if_pos (Or.inl rfl)])
  clear h
  have hcl := HC0.out.cells
  obtain ⟨h0, h1, h2⟩ := hcl
  unfold chV
  go_enter Try.func33, Try.ntmps33
  go_wp2
  refine bodyPost_ret (Cw.results (c := ⟨0, false, []⟩) (two_new _ _ _) rfl _ rfl _ Try.underlying48 rfl (by kernel_rfl)) rfl ?_
  exact ⟨none, 0, 0, by rw [HF.out]; rfl, fun W _ => by rw [HF.out]; exact wd0_fit W, HB0.out.alloc HB0.out.size _⟩

set_option maxRecDepth 100000 in
set_option maxHeartbeats 1000000 in
theorem wsurvivor_wrong (c : Ch) (p : Option Addr) (n cap : Nat) (x : Int) (w : World) (h : chIn w c p n cap) (hx0 : 0 ≤ x) (hx1 : x < 256) (hx : ¬ x = 0) (hr : rightP c = false) :
    Calls Try.prog 33 #[chV c p n cap, .int .u8 x] w fun e w' => ∃ p' n' cap', e = .returned (chV (survP c x) p' n' cap') ∧ (∀ W, chIn W c p n cap → chIn W (survP c x) p' n' cap') ∧ Below w.heap.size w w' := by
  have HB0 : Hid (Below w.heap.size w (w.alloc (.cells #[.bool c.cut, .int .i64 c.off, .slice p n cap] 48))) := Lib.hid ((Below.refl _ _).alloc (Nat.le_refl _) _)
  have HC0 : Hid (Cw (w.alloc (.cells #[.bool c.cut, .int .i64 c.off, .slice p n cap] 48)) w.heap.size c p n cap) := Lib.hid (heap_alloc_new _ _)
  have HS0 : Hid (w.heap.size + 1 ≤ (w.alloc (.cells #[.bool c.cut, .int .i64 c.off, .slice p n cap] 48)).heap.size) := Lib.hid (by simp)
  have H := Lib.hid h
  have hx' : ((x : Int) == 0) = false := by simpa using hx
  have HB1 : Hid (Below w.heap.size w ((w.alloc (.cells #[.bool c.cut, .int .i64 c.off, .slice p n cap] 48)).alloc (.cells #[.bool false, .int .i64 0, .slice none 0 0] 48))) := Lib.hid (HB0.out.alloc HB0.out.size _)
  have HC1 : Hid (Cw ((w.alloc (.cells #[.bool c.cut, .int .i64 c.off, .slice p n cap] 48)).alloc (.cells #[.bool false, .int .i64 0, .slice none 0 0] 48)) w.heap.size c p n cap) := Lib.hid (HC0.out.keep ((Below.refl _ _).alloc HS0.out _))
  have HZ1 : Hid (Cw ((w.alloc (.cells #[.bool c.cut, .int .i64 c.off, .slice p n cap] 48)).alloc (.cells #[.bool false, .int .i64 0, .slice none 0 0] 48)) (w.heap.size + 1) ⟨0, false, []⟩ none 0 0) := Lib.hid (two_new _ _ _)
  have HS1 : Hid (w.heap.size + 2 ≤ ((w.alloc (.cells #[.bool c.cut, .int .i64 c.off, .slice p n cap] 48)).alloc (.cells #[.bool false, .int .i64 0, .slice none 0 0] 48)).heap.size) := Lib.hid (by simp)
  have hcl := HC1.out.cells
  have HF : Hid (survP c x = ⟨0, false, []⟩) := Lib.hid (by unfold survP; rw [if_pos (Or.inr hr)])
  have HRT : Hid (∀ W, chIn W c p n cap → Calls Try.prog 32 #[.agg #[.bool c.cut, .int .i64 c.off, .slice p n cap]] W fun e w' => e = .returned (.bool false) ∧ W.alloc (.cells #[.bool c.cut, .int .i64 c.off, .slice p n cap] 48) = w') := Lib.hid fun W hW => by
    have h := wright_any c p n cap W hW
    rwa [hr] at h
  clear h hr HC0 HS0
  unfold chV
  obtain ⟨h0, h1, h2⟩ := hcl
  go_enter Try.func33, Try.ntmps33
  go_wp2_with fail
  refine (HRT.out _ (H.out.later HB1.out)).mono ?_
  rintro e w1 ⟨rfl, hw1⟩
  have HB2 : Hid (Below w.heap.size w w1) := Lib.hid (by rw [← hw1]; exact HB1.out.alloc HB1.out.size _)
  have HC2 : Hid (Cw w1 w.heap.size c p n cap) := Lib.hid (HC1.out.keep (by rw [← hw1]; exact (Below.refl _ _).alloc (by have := HS1.out; omega) _))
  have HZ2 : Hid (Cw w1 (w.heap.size + 1) ⟨0, false, []⟩ none 0 0) := Lib.hid (HZ1.out.keep (by rw [← hw1]; exact (Below.refl _ _).alloc HS1.out _))
  clear hw1 h0 h1 h2 HC1 HZ1 HS1 HB1 HB0
  have hc1 := HC2.out.cells
  obtain ⟨h0, h1, h2⟩ := hc1
  obtain ⟨z0, z1, z2⟩ := HZ2.out.cells
  have f0 := frozen_of_row w1 (w.heap.size + 1) 0 _ _ HZ2.out
  have f1 := frozen_of_row w1 (w.heap.size + 1) 1 _ _ HZ2.out
  have f2 := frozen_of_row w1 (w.heap.size + 1) 2 _ _ HZ2.out
  go_wp2
  refine bodyPost_ret (results_cell_row rfl _ _ (w.heap.size + 1) 48 _ (0, 0) _ rfl (cells3_stored HZ2.out _ _ _) Try.underlying48 rfl (by kernel_rfl)) rfl ?_
  exact ⟨none, 0, 0, by rw [HF.out], fun W _ => by rw [HF.out]; exact wd0_fit W, ((HB2.out.setCell (p := ⟨w.heap.size + 1, 0, none⟩) (Nat.le_succ _) _).setCell (p := ⟨w.heap.size + 1, 1, none⟩) (Nat.le_succ _) _).setCell (p := ⟨w.heap.size + 1, 2, none⟩) (Nat.le_succ _) _⟩

set_option maxRecDepth 100000 in
set_option maxHeartbeats 1000000 in
theorem wsurvivor_cut (c : Ch) (p : Option Addr) (n cap : Nat) (x : Int) (w : World) (h : chIn w c p n cap) (hx0 : 0 ≤ x) (hx1 : x < 256) (hx : ¬ x = 0) (hr : rightP c = true) (hcut : c.cut = true) :
    Calls Try.prog 33 #[chV c p n cap, .int .u8 x] w fun e w' => ∃ p' n' cap', e = .returned (chV (survP c x) p' n' cap') ∧ (∀ W, chIn W c p n cap → chIn W (survP c x) p' n' cap') ∧ Below w.heap.size w w' := by
  have HB0 : Hid (Below w.heap.size w (w.alloc (.cells #[.bool c.cut, .int .i64 c.off, .slice p n cap] 48))) := Lib.hid ((Below.refl _ _).alloc (Nat.le_refl _) _)
  have HC0 : Hid (Cw (w.alloc (.cells #[.bool c.cut, .int .i64 c.off, .slice p n cap] 48)) w.heap.size c p n cap) := Lib.hid (heap_alloc_new _ _)
  have HS0 : Hid (w.heap.size + 1 ≤ (w.alloc (.cells #[.bool c.cut, .int .i64 c.off, .slice p n cap] 48)).heap.size) := Lib.hid (by simp)
  have H := Lib.hid h
  have hx' : ((x : Int) == 0) = false := by simpa using hx
  have HB1 : Hid (Below w.heap.size w ((w.alloc (.cells #[.bool c.cut, .int .i64 c.off, .slice p n cap] 48)).alloc (.cells #[.bool false, .int .i64 0, .slice none 0 0] 48))) := Lib.hid (HB0.out.alloc HB0.out.size _)
  have HC1 : Hid (Cw ((w.alloc (.cells #[.bool c.cut, .int .i64 c.off, .slice p n cap] 48)).alloc (.cells #[.bool false, .int .i64 0, .slice none 0 0] 48)) w.heap.size c p n cap) := Lib.hid (HC0.out.keep ((Below.refl _ _).alloc HS0.out _))
  have HZ1 : Hid (Cw ((w.alloc (.cells #[.bool c.cut, .int .i64 c.off, .slice p n cap] 48)).alloc (.cells #[.bool false, .int .i64 0, .slice none 0 0] 48)) (w.heap.size + 1) ⟨0, false, []⟩ none 0 0) := Lib.hid (two_new _ _ _)
  have HS1 : Hid (w.heap.size + 2 ≤ ((w.alloc (.cells #[.bool c.cut, .int .i64 c.off, .slice p n cap] 48)).alloc (.cells #[.bool false, .int .i64 0, .slice none 0 0] 48)).heap.size) := Lib.hid (by simp)
  have hcl := HC1.out.cells
  have HF : Hid (survP c x = c) := Lib.hid (by unfold survP; rw [if_neg (fun h => h.elim hx (fun h => by rw [hr] at h; cases h)), if_neg (fun h => by rw [hcut] at h; cases h.1)])
  have HCUT := Lib.hid hcut
  have HRT : Hid (∀ W, chIn W c p n cap → Calls Try.prog 32 #[.agg #[.bool c.cut, .int .i64 c.off, .slice p n cap]] W fun e w' => e = .returned (.bool true) ∧ W.alloc (.cells #[.bool c.cut, .int .i64 c.off, .slice p n cap] 48) = w') := Lib.hid fun W hW => by
    have h := wright_any c p n cap W hW
    rwa [hr] at h
  clear h hr hcut HC0 HS0
  unfold chV
  obtain ⟨h0, h1, h2⟩ := hcl
  go_enter Try.func33, Try.ntmps33
  go_wp2_with fail
  refine (HRT.out _ (H.out.later HB1.out)).mono ?_
  rintro e w1 ⟨rfl, hw1⟩
  have HB2 : Hid (Below w.heap.size w w1) := Lib.hid (by rw [← hw1]; exact HB1.out.alloc HB1.out.size _)
  have HC2 : Hid (Cw w1 w.heap.size c p n cap) := Lib.hid (HC1.out.keep (by rw [← hw1]; exact (Below.refl _ _).alloc (by have := HS1.out; omega) _))
  have HZ2 : Hid (Cw w1 (w.heap.size + 1) ⟨0, false, []⟩ none 0 0) := Lib.hid (HZ1.out.keep (by rw [← hw1]; exact (Below.refl _ _).alloc HS1.out _))
  clear hw1 h0 h1 h2 HC1 HZ1 HS1 HB1 HB0
  have hc1 := HC2.out.cells
  rw [HCUT.out] at hc1
  obtain ⟨h0, h1, h2⟩ := hc1
  obtain ⟨z0, z1, z2⟩ := HZ2.out.cells
  have f0 := frozen_of_row w1 (w.heap.size + 1) 0 _ _ HZ2.out
  have f1 := frozen_of_row w1 (w.heap.size + 1) 1 _ _ HZ2.out
  have f2 := frozen_of_row w1 (w.heap.size + 1) 2 _ _ HZ2.out
  go_wp2
  refine bodyPost_ret (results_cell_row rfl _ _ (w.heap.size + 1) 48 _ (0, 0) _ rfl (cells3_stored HZ2.out _ _ _) Try.underlying48 rfl (by kernel_rfl)) rfl ?_
  exact ⟨p, n, cap, by rw [HF.out, HCUT.out], fun W hW => by rw [HF.out]; exact hW, ((HB2.out.setCell (p := ⟨w.heap.size + 1, 0, none⟩) (Nat.le_succ _) _).setCell (p := ⟨w.heap.size + 1, 1, none⟩) (Nat.le_succ _) _).setCell (p := ⟨w.heap.size + 1, 2, none⟩) (Nat.le_succ _) _⟩

set_option maxRecDepth 100000 in
set_option maxHeartbeats 1000000 in
theorem wsurvivor_all (c : Ch) (p : Option Addr) (n cap : Nat) (x : Int) (w : World) (h : chIn w c p n cap) (hx0 : 0 ≤ x) (hx1 : x < 256) (hx : ¬ x = 0) (hr : rightP c = true) (hcut : c.cut = false) (h255 : x = 255) :
    Calls Try.prog 33 #[chV c p n cap, .int .u8 x] w fun e w' => ∃ p' n' cap', e = .returned (chV (survP c x) p' n' cap') ∧ (∀ W, chIn W c p n cap → chIn W (survP c x) p' n' cap') ∧ Below w.heap.size w w' := by
  have HB0 : Hid (Below w.heap.size w (w.alloc (.cells #[.bool c.cut, .int .i64 c.off, .slice p n cap] 48))) := Lib.hid ((Below.refl _ _).alloc (Nat.le_refl _) _)
  have HC0 : Hid (Cw (w.alloc (.cells #[.bool c.cut, .int .i64 c.off, .slice p n cap] 48)) w.heap.size c p n cap) := Lib.hid (heap_alloc_new _ _)
  have HS0 : Hid (w.heap.size + 1 ≤ (w.alloc (.cells #[.bool c.cut, .int .i64 c.off, .slice p n cap] 48)).heap.size) := Lib.hid (by simp)
  have H := Lib.hid h
  have hx' : ((x : Int) == 0) = false := by simpa using hx
  have HB1 : Hid (Below w.heap.size w ((w.alloc (.cells #[.bool c.cut, .int .i64 c.off, .slice p n cap] 48)).alloc (.cells #[.bool false, .int .i64 0, .slice none 0 0] 48))) := Lib.hid (HB0.out.alloc HB0.out.size _)
  have HC1 : Hid (Cw ((w.alloc (.cells #[.bool c.cut, .int .i64 c.off, .slice p n cap] 48)).alloc (.cells #[.bool false, .int .i64 0, .slice none 0 0] 48)) w.heap.size c p n cap) := Lib.hid (HC0.out.keep ((Below.refl _ _).alloc HS0.out _))
  have HZ1 : Hid (Cw ((w.alloc (.cells #[.bool c.cut, .int .i64 c.off, .slice p n cap] 48)).alloc (.cells #[.bool false, .int .i64 0, .slice none 0 0] 48)) (w.heap.size + 1) ⟨0, false, []⟩ none 0 0) := Lib.hid (two_new _ _ _)
  have HS1 : Hid (w.heap.size + 2 ≤ ((w.alloc (.cells #[.bool c.cut, .int .i64 c.off, .slice p n cap] 48)).alloc (.cells #[.bool false, .int .i64 0, .slice none 0 0] 48)).heap.size) := Lib.hid (by simp)
  have hcl := HC1.out.cells
  have HF : Hid (survP c x = c) := Lib.hid (by unfold survP; rw [if_neg (fun h => h.elim hx (fun h => by rw [hr] at h; cases h)), if_neg (fun h => h.2 h255)])
  have HCUT := Lib.hid hcut
  have hq : ((x : Int) == 255) = true := by simpa using h255
  have hq2 : ((x : Int) != 255) = false := by simpa using h255
  have HRT : Hid (∀ W, chIn W c p n cap → Calls Try.prog 32 #[.agg #[.bool c.cut, .int .i64 c.off, .slice p n cap]] W fun e w' => e = .returned (.bool true) ∧ W.alloc (.cells #[.bool c.cut, .int .i64 c.off, .slice p n cap] 48) = w') := Lib.hid fun W hW => by
    have h := wright_any c p n cap W hW
    rwa [hr] at h
  clear h hr hcut HC0 HS0 h255
  unfold chV
  obtain ⟨h0, h1, h2⟩ := hcl
  go_enter Try.func33, Try.ntmps33
  go_wp2_with fail
  refine (HRT.out _ (H.out.later HB1.out)).mono ?_
  rintro e w1 ⟨rfl, hw1⟩
  have HB2 : Hid (Below w.heap.size w w1) := Lib.hid (by rw [← hw1]; exact HB1.out.alloc HB1.out.size _)
  have HC2 : Hid (Cw w1 w.heap.size c p n cap) := Lib.hid (HC1.out.keep (by rw [← hw1]; exact (Below.refl _ _).alloc (by have := HS1.out; omega) _))
  have HZ2 : Hid (Cw w1 (w.heap.size + 1) ⟨0, false, []⟩ none 0 0) := Lib.hid (HZ1.out.keep (by rw [← hw1]; exact (Below.refl _ _).alloc HS1.out _))
  clear hw1 h0 h1 h2 HC1 HZ1 HS1 HB1 HB0
  have hc1 := HC2.out.cells
  rw [HCUT.out] at hc1
  obtain ⟨h0, h1, h2⟩ := hc1
  obtain ⟨z0, z1, z2⟩ := HZ2.out.cells
  have f0 := frozen_of_row w1 (w.heap.size + 1) 0 _ _ HZ2.out
  have f1 := frozen_of_row w1 (w.heap.size + 1) 1 _ _ HZ2.out
  have f2 := frozen_of_row w1 (w.heap.size + 1) 2 _ _ HZ2.out
  go_wp2
  refine bodyPost_ret (results_cell_row rfl _ _ (w.heap.size + 1) 48 _ (0, 0) _ rfl (cells3_stored HZ2.out _ _ _) Try.underlying48 rfl (by kernel_rfl)) rfl ?_
  exact ⟨p, n, cap, by rw [HF.out, HCUT.out], fun W hW => by rw [HF.out]; exact hW, ((HB2.out.setCell (p := ⟨w.heap.size + 1, 0, none⟩) (Nat.le_succ _) _).setCell (p := ⟨w.heap.size + 1, 1, none⟩) (Nat.le_succ _) _).setCell (p := ⟨w.heap.size + 1, 2, none⟩) (Nat.le_succ _) _⟩

set_option maxRecDepth 100000 in
set_option maxHeartbeats 1000000 in
theorem wsurvivor_part (c : Ch) (p : Option Addr) (n cap : Nat) (x : Int) (w : World) (h : chIn w c p n cap) (hx0 : 0 ≤ x) (hx1 : x < 256) (hx : ¬ x = 0) (hr : rightP c = true) (hcut : c.cut = false) (h255 : ¬ x = 255) :
    Calls Try.prog 33 #[chV c p n cap, .int .u8 x] w fun e w' => ∃ p' n' cap', e = .returned (chV (survP c x) p' n' cap') ∧ (∀ W, chIn W c p n cap → chIn W (survP c x) p' n' cap') ∧ Below w.heap.size w w' := by
  have HB0 : Hid (Below w.heap.size w (w.alloc (.cells #[.bool c.cut, .int .i64 c.off, .slice p n cap] 48))) := Lib.hid ((Below.refl _ _).alloc (Nat.le_refl _) _)
  have HC0 : Hid (Cw (w.alloc (.cells #[.bool c.cut, .int .i64 c.off, .slice p n cap] 48)) w.heap.size c p n cap) := Lib.hid (heap_alloc_new _ _)
  have HS0 : Hid (w.heap.size + 1 ≤ (w.alloc (.cells #[.bool c.cut, .int .i64 c.off, .slice p n cap] 48)).heap.size) := Lib.hid (by simp)
  have H := Lib.hid h
  have hx' : ((x : Int) == 0) = false := by simpa using hx
  have HB1 : Hid (Below w.heap.size w ((w.alloc (.cells #[.bool c.cut, .int .i64 c.off, .slice p n cap] 48)).alloc (.cells #[.bool false, .int .i64 0, .slice none 0 0] 48))) := Lib.hid (HB0.out.alloc HB0.out.size _)
  have HC1 : Hid (Cw ((w.alloc (.cells #[.bool c.cut, .int .i64 c.off, .slice p n cap] 48)).alloc (.cells #[.bool false, .int .i64 0, .slice none 0 0] 48)) w.heap.size c p n cap) := Lib.hid (HC0.out.keep ((Below.refl _ _).alloc HS0.out _))
  have HZ1 : Hid (Cw ((w.alloc (.cells #[.bool c.cut, .int .i64 c.off, .slice p n cap] 48)).alloc (.cells #[.bool false, .int .i64 0, .slice none 0 0] 48)) (w.heap.size + 1) ⟨0, false, []⟩ none 0 0) := Lib.hid (two_new _ _ _)
  have HS1 : Hid (w.heap.size + 2 ≤ ((w.alloc (.cells #[.bool c.cut, .int .i64 c.off, .slice p n cap] 48)).alloc (.cells #[.bool false, .int .i64 0, .slice none 0 0] 48)).heap.size) := Lib.hid (by simp)
  have hcl := HC1.out.cells
  have HF : Hid (survP c x = { c with dat := c.dat.take x.toNat }) := Lib.hid (by unfold survP; rw [if_neg (fun h => h.elim hx (fun h => by rw [hr] at h; cases h)), if_pos ⟨hcut, h255⟩])
  have HCUT := Lib.hid hcut
  have hq : ((x : Int) == 255) = false := by simpa using h255
  have hq2 : ((x : Int) != 255) = true := by simpa using h255
  have hmin : min x (n : Int) = ((min x.toNat n : Nat) : Int) := by omega
  have HTK : Hid (c.dat.take (min x.toNat n) = c.dat.take x.toNat) := Lib.hid (by
    have := h.1.1
    rcases Nat.le_total x.toNat n with h | h
    · rw [Nat.min_eq_left h]
    · rw [Nat.min_eq_right h, List.take_of_length_le (by omega), List.take_of_length_le (by omega)])
  obtain ⟨p', hsl, hbs, hpn⟩ := h.1.slice_to (P := Try.prog) 22 5 Try.underlying22 (fun _ => by kernel_rfl) cap (min x.toNat n) h.2.2.1 (Nat.min_le_right _ _)
  have HIN : Hid (∀ W, chIn W c p n cap → chIn W { c with dat := c.dat.take x.toNat } p' (min x.toNat n) cap) := Lib.hid (fun W h2 => by
    obtain ⟨p2, hsl2, hbs2, _⟩ := h2.1.slice_to (P := Try.prog) 22 5 Try.underlying22 (fun _ => by kernel_rfl) cap (min x.toNat n) h2.2.2.1 (Nat.min_le_right _ _)
    have e := (hsl w).symm.trans (hsl2 w)
    simp only [Result.ok.injEq, Value.slice.injEq, and_true] at e
    rw [← e] at hbs2
    exact ⟨by rw [← HTK.out]; exact hbs2, hpn h.2.1, Nat.le_trans (Nat.min_le_right _ _) h.2.2.1, h.2.2.2.1, h.2.2.2.2⟩)
  rw [← hmin] at hsl
  have HRT : Hid (∀ W, chIn W c p n cap → Calls Try.prog 32 #[.agg #[.bool c.cut, .int .i64 c.off, .slice p n cap]] W fun e w' => e = .returned (.bool true) ∧ W.alloc (.cells #[.bool c.cut, .int .i64 c.off, .slice p n cap] 48) = w') := Lib.hid fun W hW => by
    have h := wright_any c p n cap W hW
    rwa [hr] at h
  clear h hr hcut HC0 HS0 h255 hmin hbs hpn
  unfold chV
  obtain ⟨h0, h1, h2⟩ := hcl
  go_enter Try.func33, Try.ntmps33
  go_wp2_with fail
  refine (HRT.out _ (H.out.later HB1.out)).mono ?_
  rintro e w1 ⟨rfl, hw1⟩
  have HB2 : Hid (Below w.heap.size w w1) := Lib.hid (by rw [← hw1]; exact HB1.out.alloc HB1.out.size _)
  have HC2 : Hid (Cw w1 w.heap.size c p n cap) := Lib.hid (HC1.out.keep (by rw [← hw1]; exact (Below.refl _ _).alloc (by have := HS1.out; omega) _))
  have HZ2 : Hid (Cw w1 (w.heap.size + 1) ⟨0, false, []⟩ none 0 0) := Lib.hid (HZ1.out.keep (by rw [← hw1]; exact (Below.refl _ _).alloc HS1.out _))
  clear hw1 h0 h1 h2 HC1 HZ1 HS1 HB1 HB0
  have hc1 := HC2.out.cells
  rw [HCUT.out] at hc1
  obtain ⟨h0, h1, h2⟩ := hc1
  obtain ⟨z0, z1, z2⟩ := HZ2.out.cells
  have f0 := frozen_of_row w1 (w.heap.size + 1) 0 _ _ HZ2.out
  have f1 := frozen_of_row w1 (w.heap.size + 1) 1 _ _ HZ2.out
  have f2 := frozen_of_row w1 (w.heap.size + 1) 2 _ _ HZ2.out
  have g2 := frozen_of_row w1 w.heap.size 2 _ _ HC2.out
  go_wp2
  have HZ3 := Lib.hid ((heap_setCell_other w1 ⟨w.heap.size, 2, none⟩ (w.heap.size + 1) (.slice p' (min x.toNat n) cap) (by simp)).trans HZ2.out)
  refine bodyPost_ret (results_cell_row rfl _ _ (w.heap.size + 1) 48 _ (0, 0) _ rfl (cells3_stored HZ3.out _ _ _) Try.underlying48 rfl (by kernel_rfl)) rfl ?_
  exact ⟨p', min x.toNat n, cap, by rw [HF.out, HCUT.out], fun W hW => by rw [HF.out]; exact HIN.out W hW, (((HB2.out.setCell (p := ⟨w.heap.size, 2, none⟩) (Nat.le_refl _) _).setCell (p := ⟨w.heap.size + 1, 0, none⟩) (Nat.le_succ _) _).setCell (p := ⟨w.heap.size + 1, 1, none⟩) (Nat.le_succ _) _).setCell (p := ⟨w.heap.size + 1, 2, none⟩) (Nat.le_succ _) _⟩

theorem wsurvivor_any (c : Ch) (p : Option Addr) (n cap : Nat) (x : Int) (w : World) (h : chIn w c p n cap) (hx0 : 0 ≤ x) (hx1 : x < 256) :
    Calls Try.prog 33 #[chV c p n cap, .int .u8 x] w fun e w' => ∃ p' n' cap', e = .returned (chV (survP c x) p' n' cap') ∧ (∀ W, chIn W c p n cap → chIn W (survP c x) p' n' cap') ∧ Below w.heap.size w w' := by
  by_cases hx : x = 0
  · exact wsurvivor_zero c p n cap x w h hx0 hx1 hx
  · cases hr : rightP c
    · exact wsurvivor_wrong c p n cap x w h hx0 hx1 hx hr
    · cases hcut : c.cut
      · by_cases h255 : x = 255
        · exact wsurvivor_all c p n cap x w h hx0 hx1 hx hr hcut h255
        · exact wsurvivor_part c p n cap x w h hx0 hx1 hx hr hcut h255
      · exact wsurvivor_cut c p n cap x w h hx0 hx1 hx hr hcut
end Go.Proofs.Ytapobakolnlpmaa
