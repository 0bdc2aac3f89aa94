/- Layer 9: what survives of a change; Layer 9: the program's All and Peak; Layer 9: the program's Survive; Layer 10: a file on plain lists: its bytes and its changes; Layer 12: a disk on plain lists; Layer 9: the reference's All; Layer 9: the reference's Survive and Peak; Layer 9: the reference's Peak -/
import Derived.Test.YtncbgddgkpaoeaaGreatDd2
import Derived.Test.YtncbgddgkpaoeaaGreatDd3
import Derived.Test.YtncbgddgkpaoeaaGreatDd5
import Derived.Test.YtncbgddgkpaoeaaGreatDd8
import Derived.Test.YtncbgddgkpaoeaaGreatDd10
import Derived.Deep.RegionHeld3
set_option linter.unusedSimpArgs false
set_option linter.unusedVariables false
namespace Go.Proofs.YtncbgddgkpaoeaaGreat
set_option linter.unusedVariables false
open Go.RowKit Go.Lib

/-- the change that is left of c by the choice x -/
def survP (c : Ch) (x : Int) : Ch := if x = 0 ∨ rightP c = false then ⟨0, false, []⟩ else if c.cut = false ∧ x ≠ 255 then { c with dat := c.dat.take x.toNat } else c
theorem survP_app (b : List Int) (c : Ch) (x : Int) (h0 : 0 ≤ x) : appP b (survP c x) (survP c x).dat.length = if 0 < x then appP b c (mostP c x) else b := by
  have hz : appP b ⟨0, false, []⟩ 0 = b := by
    unfold appP
    split
    · rfl
    · simp [putP]
  unfold survP
  by_cases hx : x = 0
  · subst hx
    rw [if_pos (Or.inl rfl), if_neg (by omega)]
    exact hz
  · have hp : 0 < x := by omega
    rw [if_pos hp]
    by_cases hr : rightP c = false
    · rw [if_pos (Or.inr hr)]
      unfold appP
      rw [if_pos hr]
      split
      · rfl
      · simp [putP]
    · rw [if_neg (fun h => h.elim hx hr)]
      by_cases hc : c.cut = false ∧ x ≠ 255
      · rw [if_pos hc]
        have hr' : rightP { c with dat := c.dat.take x.toNat } = true := by
          have : rightP c = true := by simpa using hr
          unfold rightP at this ⊢
          have h2 := of_decide_eq_true this
          refine decide_eq_true ⟨h2.1, ?_⟩
          simp only [List.length_take]
          omega
        unfold appP mostP
        rw [if_neg (by rw [hr']; simp), if_neg hr, if_neg hc.2]
        rw [if_neg (by simp [hc.1]), if_neg (by simp [hc.1])]
        rw [List.take_length]
      · rw [if_neg hc]
        unfold appP
        rw [if_neg hr, if_neg hr]
        by_cases hcut : c.cut = true
        · rw [if_pos hcut, if_pos hcut]
        · have h255 : x = 255 := by
            rcases Decidable.em (x = 255) with h | h
            · exact h
            · exact absurd ⟨by simpa using hcut, h⟩ hc
          rw [if_neg hcut, if_neg hcut]
          unfold mostP
          rw [if_pos h255]

theorem two_new (w : World) (A B : Obj) : ((w.alloc A).alloc B).heap[w.heap.size + 1]? = some B := by
  have := heap_alloc_new (w.alloc A) B
  simpa using this
theorem Cw.results {P : Program} {fn : Func} {q : Tmp} {ty : TypeId} {w : World} {g : Nat} {c : Ch} {p : Option Addr} {n cap : Nat} (hg : Cw w g c p n cap) (h : fn.results = #[.cell q ty]) (tmps : Array Value)
    (hp : tmps.getD q undef = .pointer (some ⟨g, 0, none⟩)) (d : TypeDesc) (hu : P.underlying ty = some d) (hd : (match d with | .struct _ | .array _ _ => true | _ => false) = true) (hi : (P.info? ty).map (·.size) = some 3) :
    (Go.results fn tmps).run P w = .ok (chV c p n cap) w := results_cell_row h tmps w g _ _ _ d hp hg hu hd hi

theorem cells3_stored {w : World} {g : Nat} {a0 a1 a2 : Value} {t : TypeId} (h : w.heap[g]? = some (.cells #[a0, a1, a2] t (0, 0))) (v0 v1 v2 : Value) :
    (((w.setCell ⟨g, 0, none⟩ v0).setCell ⟨g, 1, none⟩ v1).setCell ⟨g, 2, none⟩ v2).heap[g]? = some (.cells #[v0, v1, v2] t (0, 0)) := by
  rw [heap_setCell_same _ g 2 _ t v2 (heap_setCell_same _ g 1 _ t v1 (heap_setCell_same w g 0 _ t v0 h))]
  rfl
theorem cell2_stored {w : World} {g : Nat} {a0 a1 a2 : Value} {t : TypeId} (h : w.heap[g]? = some (.cells #[a0, a1, a2] t (0, 0))) (v2 : Value) :
    (w.setCell ⟨g, 2, none⟩ v2).heap[g]? = some (.cells #[a0, a1, v2] t (0, 0)) := by
  rw [heap_setCell_same _ g 2 _ t v2 h]
  rfl

set_option maxRecDepth 100000 in
set_option maxHeartbeats 1000000 in
theorem wsurvivor_zero (c : Ch) (p : Option Addr) (n cap : Nat) (x : Int) (w : World) (h : chIn w c p n cap) (hx0 : 0 ≤ x) (hx1 : x < 256) (hx : x = 0) :
    Calls Tryz.prog 107 #[chV c p n cap, .int .u8 x] w fun e w' => ∃ p' n' cap', e = .returned (chV (survP c x) p' n' cap') ∧ (∀ W, chIn W c p n cap → chIn W (survP c x) p' n' cap') ∧ Below w.heap.size w w' := by
  have HB0 : Hid (Below w.heap.size w (w.alloc (.cells #[.bool c.cut, .int .i64 c.off, .slice p n cap] 137))) := Lib.hid ((Below.refl _ _).alloc (Nat.le_refl _) _)
  have HC0 : Hid (Cw (w.alloc (.cells #[.bool c.cut, .int .i64 c.off, .slice p n cap] 137)) w.heap.size c p n cap) := Lib.hid (heap_alloc_new _ _)
  have HS0 : Hid (w.heap.size + 1 ≤ (w.alloc (.cells #[.bool c.cut, .int .i64 c.off, .slice p n cap] 137)).heap.size) := Lib.hid (by simp)
  have H := Lib.hid h
  subst hx
  have HF : Hid (survP c 0 = ⟨0, false, []⟩) := Lib.hid (by unfold survP; rw [if_pos (Or.inl rfl)])
  clear h
  have hcl := HC0.out.cells
  obtain ⟨h0, h1, h2⟩ := hcl
  unfold chV
  go_enter Tryz.func107, Tryz.ntmps107
  go_wp2
  refine bodyPost_ret (Cw.results (c := ⟨0, false, []⟩) (two_new _ _ _) rfl _ rfl _ Tryz.underlying137 rfl (by kernel_rfl)) rfl ?_
  exact ⟨none, 0, 0, by rw [HF.out]; rfl, fun W _ => by rw [HF.out]; exact wd0_fit W, HB0.out.alloc HB0.out.size _⟩

set_option maxRecDepth 100000 in
set_option maxHeartbeats 1000000 in
theorem wsurvivor_wrong (c : Ch) (p : Option Addr) (n cap : Nat) (x : Int) (w : World) (h : chIn w c p n cap) (hx0 : 0 ≤ x) (hx1 : x < 256) (hx : ¬ x = 0) (hr : rightP c = false) :
    Calls Tryz.prog 107 #[chV c p n cap, .int .u8 x] w fun e w' => ∃ p' n' cap', e = .returned (chV (survP c x) p' n' cap') ∧ (∀ W, chIn W c p n cap → chIn W (survP c x) p' n' cap') ∧ Below w.heap.size w w' := by
  have HB0 : Hid (Below w.heap.size w (w.alloc (.cells #[.bool c.cut, .int .i64 c.off, .slice p n cap] 137))) := Lib.hid ((Below.refl _ _).alloc (Nat.le_refl _) _)
  have HC0 : Hid (Cw (w.alloc (.cells #[.bool c.cut, .int .i64 c.off, .slice p n cap] 137)) w.heap.size c p n cap) := Lib.hid (heap_alloc_new _ _)
  have HS0 : Hid (w.heap.size + 1 ≤ (w.alloc (.cells #[.bool c.cut, .int .i64 c.off, .slice p n cap] 137)).heap.size) := Lib.hid (by simp)
  have H := Lib.hid h
  have hx' : ((x : Int) == 0) = false := by simpa using hx
  have HB1 : Hid (Below w.heap.size w ((w.alloc (.cells #[.bool c.cut, .int .i64 c.off, .slice p n cap] 137)).alloc (.cells #[.bool false, .int .i64 0, .slice none 0 0] 137))) := Lib.hid (HB0.out.alloc HB0.out.size _)
  have HC1 : Hid (Cw ((w.alloc (.cells #[.bool c.cut, .int .i64 c.off, .slice p n cap] 137)).alloc (.cells #[.bool false, .int .i64 0, .slice none 0 0] 137)) w.heap.size c p n cap) := Lib.hid (HC0.out.keep ((Below.refl _ _).alloc HS0.out _))
  have HZ1 : Hid (Cw ((w.alloc (.cells #[.bool c.cut, .int .i64 c.off, .slice p n cap] 137)).alloc (.cells #[.bool false, .int .i64 0, .slice none 0 0] 137)) (w.heap.size + 1) ⟨0, false, []⟩ none 0 0) := Lib.hid (two_new _ _ _)
  have HS1 : Hid (w.heap.size + 2 ≤ ((w.alloc (.cells #[.bool c.cut, .int .i64 c.off, .slice p n cap] 137)).alloc (.cells #[.bool false, .int .i64 0, .slice none 0 0] 137)).heap.size) := Lib.hid (by simp)
  have hcl := HC1.out.cells
  have HF : Hid (survP c x = ⟨0, false, []⟩) := Lib.hid (by unfold survP; rw [if_pos (Or.inr hr)])
  have HRT : Hid (∀ W, chIn W c p n cap → Calls Tryz.prog 116 #[.agg #[.bool c.cut, .int .i64 c.off, .slice p n cap]] W fun e w' => e = .returned (.bool false) ∧ W.alloc (.cells #[.bool c.cut, .int .i64 c.off, .slice p n cap] 137) = w') := Lib.hid fun W hW => by
    have h := wright_any c p n cap W hW
    rwa [hr] at h
  clear h hr HC0 HS0
  unfold chV
  obtain ⟨h0, h1, h2⟩ := hcl
  go_enter Tryz.func107, Tryz.ntmps107
  go_wp2_with fail
  refine (HRT.out _ (H.out.later HB1.out)).mono ?_
  rintro e w1 ⟨rfl, hw1⟩
  have HB2 : Hid (Below w.heap.size w w1) := Lib.hid (by rw [← hw1]; exact HB1.out.alloc HB1.out.size _)
  have HC2 : Hid (Cw w1 w.heap.size c p n cap) := Lib.hid (HC1.out.keep (by rw [← hw1]; exact (Below.refl _ _).alloc (by have := HS1.out; omega) _))
  have HZ2 : Hid (Cw w1 (w.heap.size + 1) ⟨0, false, []⟩ none 0 0) := Lib.hid (HZ1.out.keep (by rw [← hw1]; exact (Below.refl _ _).alloc HS1.out _))
  clear hw1 h0 h1 h2 HC1 HZ1 HS1 HB1 HB0
  have hc1 := HC2.out.cells
  obtain ⟨h0, h1, h2⟩ := hc1
  obtain ⟨z0, z1, z2⟩ := HZ2.out.cells
  have f0 := frozen_of_row w1 (w.heap.size + 1) 0 _ _ HZ2.out
  have f1 := frozen_of_row w1 (w.heap.size + 1) 1 _ _ HZ2.out
  have f2 := frozen_of_row w1 (w.heap.size + 1) 2 _ _ HZ2.out
  go_wp2
  refine bodyPost_ret (results_cell_row rfl _ _ (w.heap.size + 1) 137 _ (0, 0) _ rfl (cells3_stored HZ2.out _ _ _) Tryz.underlying137 rfl (by kernel_rfl)) rfl ?_
  exact ⟨none, 0, 0, by rw [HF.out], fun W _ => by rw [HF.out]; exact wd0_fit W, ((HB2.out.setCell (p := ⟨w.heap.size + 1, 0, none⟩) (Nat.le_succ _) _).setCell (p := ⟨w.heap.size + 1, 1, none⟩) (Nat.le_succ _) _).setCell (p := ⟨w.heap.size + 1, 2, none⟩) (Nat.le_succ _) _⟩

set_option maxRecDepth 100000 in
set_option maxHeartbeats 1000000 in
theorem wsurvivor_cut (c : Ch) (p : Option Addr) (n cap : Nat) (x : Int) (w : World) (h : chIn w c p n cap) (hx0 : 0 ≤ x) (hx1 : x < 256) (hx : ¬ x = 0) (hr : rightP c = true) (hcut : c.cut = true) :
    Calls Tryz.prog 107 #[chV c p n cap, .int .u8 x] w fun e w' => ∃ p' n' cap', e = .returned (chV (survP c x) p' n' cap') ∧ (∀ W, chIn W c p n cap → chIn W (survP c x) p' n' cap') ∧ Below w.heap.size w w' := by
  have HB0 : Hid (Below w.heap.size w (w.alloc (.cells #[.bool c.cut, .int .i64 c.off, .slice p n cap] 137))) := Lib.hid ((Below.refl _ _).alloc (Nat.le_refl _) _)
  have HC0 : Hid (Cw (w.alloc (.cells #[.bool c.cut, .int .i64 c.off, .slice p n cap] 137)) w.heap.size c p n cap) := Lib.hid (heap_alloc_new _ _)
  have HS0 : Hid (w.heap.size + 1 ≤ (w.alloc (.cells #[.bool c.cut, .int .i64 c.off, .slice p n cap] 137)).heap.size) := Lib.hid (by simp)
  have H := Lib.hid h
  have hx' : ((x : Int) == 0) = false := by simpa using hx
  have HB1 : Hid (Below w.heap.size w ((w.alloc (.cells #[.bool c.cut, .int .i64 c.off, .slice p n cap] 137)).alloc (.cells #[.bool false, .int .i64 0, .slice none 0 0] 137))) := Lib.hid (HB0.out.alloc HB0.out.size _)
  have HC1 : Hid (Cw ((w.alloc (.cells #[.bool c.cut, .int .i64 c.off, .slice p n cap] 137)).alloc (.cells #[.bool false, .int .i64 0, .slice none 0 0] 137)) w.heap.size c p n cap) := Lib.hid (HC0.out.keep ((Below.refl _ _).alloc HS0.out _))
  have HZ1 : Hid (Cw ((w.alloc (.cells #[.bool c.cut, .int .i64 c.off, .slice p n cap] 137)).alloc (.cells #[.bool false, .int .i64 0, .slice none 0 0] 137)) (w.heap.size + 1) ⟨0, false, []⟩ none 0 0) := Lib.hid (two_new _ _ _)
  have HS1 : Hid (w.heap.size + 2 ≤ ((w.alloc (.cells #[.bool c.cut, .int .i64 c.off, .slice p n cap] 137)).alloc (.cells #[.bool false, .int .i64 0, .slice none 0 0] 137)).heap.size) := Lib.hid (by simp)
  have hcl := HC1.out.cells
  have HF : Hid (survP c x = c) := Lib.hid (by unfold survP; rw [if_neg (fun h => h.elim hx (fun h => by rw [hr] at h; cases h)), if_neg (fun h => by rw [hcut] at h; cases h.1)])
  have HCUT := Lib.hid hcut
  have HRT : Hid (∀ W, chIn W c p n cap → Calls Tryz.prog 116 #[.agg #[.bool c.cut, .int .i64 c.off, .slice p n cap]] W fun e w' => e = .returned (.bool true) ∧ W.alloc (.cells #[.bool c.cut, .int .i64 c.off, .slice p n cap] 137) = w') := Lib.hid fun W hW => by
    have h := wright_any c p n cap W hW
    rwa [hr] at h
  clear h hr hcut HC0 HS0
  unfold chV
  obtain ⟨h0, h1, h2⟩ := hcl
  go_enter Tryz.func107, Tryz.ntmps107
  go_wp2_with fail
  refine (HRT.out _ (H.out.later HB1.out)).mono ?_
  rintro e w1 ⟨rfl, hw1⟩
  have HB2 : Hid (Below w.heap.size w w1) := Lib.hid (by rw [← hw1]; exact HB1.out.alloc HB1.out.size _)
  have HC2 : Hid (Cw w1 w.heap.size c p n cap) := Lib.hid (HC1.out.keep (by rw [← hw1]; exact (Below.refl _ _).alloc (by have := HS1.out; omega) _))
  have HZ2 : Hid (Cw w1 (w.heap.size + 1) ⟨0, false, []⟩ none 0 0) := Lib.hid (HZ1.out.keep (by rw [← hw1]; exact (Below.refl _ _).alloc HS1.out _))
  clear hw1 h0 h1 h2 HC1 HZ1 HS1 HB1 HB0
  have hc1 := HC2.out.cells
  rw [HCUT.out] at hc1
  obtain ⟨h0, h1, h2⟩ := hc1
  obtain ⟨z0, z1, z2⟩ := HZ2.out.cells
  have f0 := frozen_of_row w1 (w.heap.size + 1) 0 _ _ HZ2.out
  have f1 := frozen_of_row w1 (w.heap.size + 1) 1 _ _ HZ2.out
  have f2 := frozen_of_row w1 (w.heap.size + 1) 2 _ _ HZ2.out
  go_wp2
  refine bodyPost_ret (results_cell_row rfl _ _ (w.heap.size + 1) 137 _ (0, 0) _ rfl (cells3_stored HZ2.out _ _ _) Tryz.underlying137 rfl (by kernel_rfl)) rfl ?_
  exact ⟨p, n, cap, by rw [HF.out, HCUT.out], fun W hW => by rw [HF.out]; exact hW, ((HB2.out.setCell (p := ⟨w.heap.size + 1, 0, none⟩) (Nat.le_succ _) _).setCell (p := ⟨w.heap.size + 1, 1, none⟩) (Nat.le_succ _) _).setCell (p := ⟨w.heap.size + 1, 2, none⟩) (Nat.le_succ _) _⟩

set_option maxRecDepth 100000 in
set_option maxHeartbeats 1000000 in
theorem wsurvivor_all (c : Ch) (p : Option Addr) (n cap : Nat) (x : Int) (w : World) (h : chIn w c p n cap) (hx0 : 0 ≤ x) (hx1 : x < 256) (hx : ¬ x = 0) (hr : rightP c = true) (hcut : c.cut = false) (h255 : x = 255) :
    Calls Tryz.prog 107 #[chV c p n cap, .int .u8 x] w fun e w' => ∃ p' n' cap', e = .returned (chV (survP c x) p' n' cap') ∧ (∀ W, chIn W c p n cap → chIn W (survP c x) p' n' cap') ∧ Below w.heap.size w w' := by
  have HB0 : Hid (Below w.heap.size w (w.alloc (.cells #[.bool c.cut, .int .i64 c.off, .slice p n cap] 137))) := Lib.hid ((Below.refl _ _).alloc (Nat.le_refl _) _)
  have HC0 : Hid (Cw (w.alloc (.cells #[.bool c.cut, .int .i64 c.off, .slice p n cap] 137)) w.heap.size c p n cap) := Lib.hid (heap_alloc_new _ _)
  have HS0 : Hid (w.heap.size + 1 ≤ (w.alloc (.cells #[.bool c.cut, .int .i64 c.off, .slice p n cap] 137)).heap.size) := Lib.hid (by simp)
  have H := Lib.hid h
  have hx' : ((x : Int) == 0) = false := by simpa using hx
  have HB1 : Hid (Below w.heap.size w ((w.alloc (.cells #[.bool c.cut, .int .i64 c.off, .slice p n cap] 137)).alloc (.cells #[.bool false, .int .i64 0, .slice none 0 0] 137))) := Lib.hid (HB0.out.alloc HB0.out.size _)
  have HC1 : Hid (Cw ((w.alloc (.cells #[.bool c.cut, .int .i64 c.off, .slice p n cap] 137)).alloc (.cells #[.bool false, .int .i64 0, .slice none 0 0] 137)) w.heap.size c p n cap) := Lib.hid (HC0.out.keep ((Below.refl _ _).alloc HS0.out _))
  have HZ1 : Hid (Cw ((w.alloc (.cells #[.bool c.cut, .int .i64 c.off, .slice p n cap] 137)).alloc (.cells #[.bool false, .int .i64 0, .slice none 0 0] 137)) (w.heap.size + 1) ⟨0, false, []⟩ none 0 0) := Lib.hid (two_new _ _ _)
  have HS1 : Hid (w.heap.size + 2 ≤ ((w.alloc (.cells #[.bool c.cut, .int .i64 c.off, .slice p n cap] 137)).alloc (.cells #[.bool false, .int .i64 0, .slice none 0 0] 137)).heap.size) := Lib.hid (by simp)
  have hcl := HC1.out.cells
  have HF : Hid (survP c x = c) := Lib.hid (by unfold survP; rw [if_neg (fun h => h.elim hx (fun h => by rw [hr] at h; cases h)), if_neg (fun h => h.2 h255)])
  have HCUT := Lib.hid hcut
  have hq : ((x : Int) == 255) = true := by simpa using h255
  have hq2 : ((x : Int) != 255) = false := by simpa using h255
  have HRT : Hid (∀ W, chIn W c p n cap → Calls Tryz.prog 116 #[.agg #[.bool c.cut, .int .i64 c.off, .slice p n cap]] W fun e w' => e = .returned (.bool true) ∧ W.alloc (.cells #[.bool c.cut, .int .i64 c.off, .slice p n cap] 137) = w') := Lib.hid fun W hW => by
    have h := wright_any c p n cap W hW
    rwa [hr] at h
  clear h hr hcut HC0 HS0 h255
  unfold chV
  obtain ⟨h0, h1, h2⟩ := hcl
  go_enter Tryz.func107, Tryz.ntmps107
  go_wp2_with fail
  refine (HRT.out _ (H.out.later HB1.out)).mono ?_
  rintro e w1 ⟨rfl, hw1⟩
  have HB2 : Hid (Below w.heap.size w w1) := Lib.hid (by rw [← hw1]; exact HB1.out.alloc HB1.out.size _)
  have HC2 : Hid (Cw w1 w.heap.size c p n cap) := Lib.hid (HC1.out.keep (by rw [← hw1]; exact (Below.refl _ _).alloc (by have := HS1.out; omega) _))
  have HZ2 : Hid (Cw w1 (w.heap.size + 1) ⟨0, false, []⟩ none 0 0) := Lib.hid (HZ1.out.keep (by rw [← hw1]; exact (Below.refl _ _).alloc HS1.out _))
  clear hw1 h0 h1 h2 HC1 HZ1 HS1 HB1 HB0
  have hc1 := HC2.out.cells
  rw [HCUT.out] at hc1
  obtain ⟨h0, h1, h2⟩ := hc1
  obtain ⟨z0, z1, z2⟩ := HZ2.out.cells
  have f0 := frozen_of_row w1 (w.heap.size + 1) 0 _ _ HZ2.out
  have f1 := frozen_of_row w1 (w.heap.size + 1) 1 _ _ HZ2.out
  have f2 := frozen_of_row w1 (w.heap.size + 1) 2 _ _ HZ2.out
  go_wp2
  refine bodyPost_ret (results_cell_row rfl _ _ (w.heap.size + 1) 137 _ (0, 0) _ rfl (cells3_stored HZ2.out _ _ _) Tryz.underlying137 rfl (by kernel_rfl)) rfl ?_
  exact ⟨p, n, cap, by rw [HF.out, HCUT.out], fun W hW => by rw [HF.out]; exact hW, ((HB2.out.setCell (p := ⟨w.heap.size + 1, 0, none⟩) (Nat.le_succ _) _).setCell (p := ⟨w.heap.size + 1, 1, none⟩) (Nat.le_succ _) _).setCell (p := ⟨w.heap.size + 1, 2, none⟩) (Nat.le_succ _) _⟩

set_option maxRecDepth 100000 in
set_option maxHeartbeats 1000000 in
theorem wsurvivor_part (c : Ch) (p : Option Addr) (n cap : Nat) (x : Int) (w : World) (h : chIn w c p n cap) (hx0 : 0 ≤ x) (hx1 : x < 256) (hx : ¬ x = 0) (hr : rightP c = true) (hcut : c.cut = false) (h255 : ¬ x = 255) :
    Calls Tryz.prog 107 #[chV c p n cap, .int .u8 x] w fun e w' => ∃ p' n' cap', e = .returned (chV (survP c x) p' n' cap') ∧ (∀ W, chIn W c p n cap → chIn W (survP c x) p' n' cap') ∧ Below w.heap.size w w' := by
  have HB0 : Hid (Below w.heap.size w (w.alloc (.cells #[.bool c.cut, .int .i64 c.off, .slice p n cap] 137))) := Lib.hid ((Below.refl _ _).alloc (Nat.le_refl _) _)
  have HC0 : Hid (Cw (w.alloc (.cells #[.bool c.cut, .int .i64 c.off, .slice p n cap] 137)) w.heap.size c p n cap) := Lib.hid (heap_alloc_new _ _)
  have HS0 : Hid (w.heap.size + 1 ≤ (w.alloc (.cells #[.bool c.cut, .int .i64 c.off, .slice p n cap] 137)).heap.size) := Lib.hid (by simp)
  have H := Lib.hid h
  have hx' : ((x : Int) == 0) = false := by simpa using hx
  have HB1 : Hid (Below w.heap.size w ((w.alloc (.cells #[.bool c.cut, .int .i64 c.off, .slice p n cap] 137)).alloc (.cells #[.bool false, .int .i64 0, .slice none 0 0] 137))) := Lib.hid (HB0.out.alloc HB0.out.size _)
  have HC1 : Hid (Cw ((w.alloc (.cells #[.bool c.cut, .int .i64 c.off, .slice p n cap] 137)).alloc (.cells #[.bool false, .int .i64 0, .slice none 0 0] 137)) w.heap.size c p n cap) := Lib.hid (HC0.out.keep ((Below.refl _ _).alloc HS0.out _))
  have HZ1 : Hid (Cw ((w.alloc (.cells #[.bool c.cut, .int .i64 c.off, .slice p n cap] 137)).alloc (.cells #[.bool false, .int .i64 0, .slice none 0 0] 137)) (w.heap.size + 1) ⟨0, false, []⟩ none 0 0) := Lib.hid (two_new _ _ _)
  have HS1 : Hid (w.heap.size + 2 ≤ ((w.alloc (.cells #[.bool c.cut, .int .i64 c.off, .slice p n cap] 137)).alloc (.cells #[.bool false, .int .i64 0, .slice none 0 0] 137)).heap.size) := Lib.hid (by simp)
  have hcl := HC1.out.cells
  have HF : Hid (survP c x = { c with dat := c.dat.take x.toNat }) := Lib.hid (by unfold survP; rw [if_neg (fun h => h.elim hx (fun h => by rw [hr] at h; cases h)), if_pos ⟨hcut, h255⟩])
  have HCUT := Lib.hid hcut
  have hq : ((x : Int) == 255) = false := by simpa using h255
  have hq2 : ((x : Int) != 255) = true := by simpa using h255
  have hmin : min x (n : Int) = ((min x.toNat n : Nat) : Int) := by omega
  have HTK : Hid (c.dat.take (min x.toNat n) = c.dat.take x.toNat) := Lib.hid (by
    have := h.1.1
    rcases Nat.le_total x.toNat n with h | h
    · rw [Nat.min_eq_left h]
    · rw [Nat.min_eq_right h, List.take_of_length_le (by omega), List.take_of_length_le (by omega)])
  obtain ⟨p', hsl, hbs, hpn⟩ := h.1.slice_to (P := Tryz.prog) 32 5 Tryz.underlying32 (fun _ => by kernel_rfl) cap (min x.toNat n) h.2.2.1 (Nat.min_le_right _ _)
  have HIN : Hid (∀ W, chIn W c p n cap → chIn W { c with dat := c.dat.take x.toNat } p' (min x.toNat n) cap) := Lib.hid (fun W h2 => by
    obtain ⟨p2, hsl2, hbs2, _⟩ := h2.1.slice_to (P := Tryz.prog) 32 5 Tryz.underlying32 (fun _ => by kernel_rfl) cap (min x.toNat n) h2.2.2.1 (Nat.min_le_right _ _)
    have e := (hsl w).symm.trans (hsl2 w)
    simp only [Result.ok.injEq, Value.slice.injEq, and_true] at e
    rw [← e] at hbs2
    exact ⟨by rw [← HTK.out]; exact hbs2, hpn h.2.1, Nat.le_trans (Nat.min_le_right _ _) h.2.2.1, h.2.2.2.1, h.2.2.2.2⟩)
  rw [← hmin] at hsl
  have HRT : Hid (∀ W, chIn W c p n cap → Calls Tryz.prog 116 #[.agg #[.bool c.cut, .int .i64 c.off, .slice p n cap]] W fun e w' => e = .returned (.bool true) ∧ W.alloc (.cells #[.bool c.cut, .int .i64 c.off, .slice p n cap] 137) = w') := Lib.hid fun W hW => by
    have h := wright_any c p n cap W hW
    rwa [hr] at h
  clear h hr hcut HC0 HS0 h255 hmin hbs hpn
  unfold chV
  obtain ⟨h0, h1, h2⟩ := hcl
  go_enter Tryz.func107, Tryz.ntmps107
  go_wp2_with fail
  refine (HRT.out _ (H.out.later HB1.out)).mono ?_
  rintro e w1 ⟨rfl, hw1⟩
  have HB2 : Hid (Below w.heap.size w w1) := Lib.hid (by rw [← hw1]; exact HB1.out.alloc HB1.out.size _)
  have HC2 : Hid (Cw w1 w.heap.size c p n cap) := Lib.hid (HC1.out.keep (by rw [← hw1]; exact (Below.refl _ _).alloc (by have := HS1.out; omega) _))
  have HZ2 : Hid (Cw w1 (w.heap.size + 1) ⟨0, false, []⟩ none 0 0) := Lib.hid (HZ1.out.keep (by rw [← hw1]; exact (Below.refl _ _).alloc HS1.out _))
  clear hw1 h0 h1 h2 HC1 HZ1 HS1 HB1 HB0
  have hc1 := HC2.out.cells
  rw [HCUT.out] at hc1
  obtain ⟨h0, h1, h2⟩ := hc1
  obtain ⟨z0, z1, z2⟩ := HZ2.out.cells
  have f0 := frozen_of_row w1 (w.heap.size + 1) 0 _ _ HZ2.out
  have f1 := frozen_of_row w1 (w.heap.size + 1) 1 _ _ HZ2.out
  have f2 := frozen_of_row w1 (w.heap.size + 1) 2 _ _ HZ2.out
  have g2 := frozen_of_row w1 w.heap.size 2 _ _ HC2.out
  go_wp2
  have HZ3 := Lib.hid ((heap_setCell_other w1 ⟨w.heap.size, 2, none⟩ (w.heap.size + 1) (.slice p' (min x.toNat n) cap) (by simp)).trans HZ2.out)
  refine bodyPost_ret (results_cell_row rfl _ _ (w.heap.size + 1) 137 _ (0, 0) _ rfl (cells3_stored HZ3.out _ _ _) Tryz.underlying137 rfl (by kernel_rfl)) rfl ?_
  exact ⟨p', min x.toNat n, cap, by rw [HF.out, HCUT.out], fun W hW => by rw [HF.out]; exact HIN.out W hW, (((HB2.out.setCell (p := ⟨w.heap.size, 2, none⟩) (Nat.le_refl _) _).setCell (p := ⟨w.heap.size + 1, 0, none⟩) (Nat.le_succ _) _).setCell (p := ⟨w.heap.size + 1, 1, none⟩) (Nat.le_succ _) _).setCell (p := ⟨w.heap.size + 1, 2, none⟩) (Nat.le_succ _) _⟩

theorem wsurvivor_any (c : Ch) (p : Option Addr) (n cap : Nat) (x : Int) (w : World) (h : chIn w c p n cap) (hx0 : 0 ≤ x) (hx1 : x < 256) :
    Calls Tryz.prog 107 #[chV c p n cap, .int .u8 x] w fun e w' => ∃ p' n' cap', e = .returned (chV (survP c x) p' n' cap') ∧ (∀ W, chIn W c p n cap → chIn W (survP c x) p' n' cap') ∧ Below w.heap.size w w' := by
  by_cases hx : x = 0
  · exact wsurvivor_zero c p n cap x w h hx0 hx1 hx
  · cases hr : rightP c
    · exact wsurvivor_wrong c p n cap x w h hx0 hx1 hx hr
    · cases hcut : c.cut
      · by_cases h255 : x = 255
        · exact wsurvivor_all c p n cap x w h hx0 hx1 hx hr hcut h255
        · exact wsurvivor_part c p n cap x w h hx0 hx1 hx hr hcut h255
      · exact wsurvivor_cut c p n cap x w h hx0 hx1 hx hr hcut
end Go.Proofs.YtncbgddgkpaoeaaGreat

namespace Go.Proofs.YtncbgddgkpaoeaaGreat
set_option linter.unusedVariables false
open Go.RowKit Go.Lib

def chs (L : List Wd) : List Ch := L.map Wd.c
theorem chs_length (L : List Wd) : (chs L).length = L.length := by simp [chs]
theorem chs_take (L : List Wd) (k : Nat) : chs (L.take k) = (chs L).take k := by simp [chs, List.map_take]
theorem chs_step (L : List Wd) (k : Nat) (hk : k < L.length) : (chs L).take (k + 1) = (chs L).take k ++ [(L.getD k wd0).c] := by
  rw [List.take_succ_eq_append_getElem (by rw [chs_length]; exact hk), List.getD_eq_getElem?_getD, List.getElem?_eq_getElem hk]
  simp [chs]
theorem allP_step (b : List Int) (L : List Wd) (k : Nat) (hk : k < L.length) : allP b ((chs L).take (k + 1)) = appP (allP b ((chs L).take k)) (L.getD k wd0).c (L.getD k wd0).c.dat.length := by
  rw [chs_step L k hk]
  simp [allP]
theorem peakP_max (l : List Ch) : ∀ n : Int, peakP n l ≤ max n 1048576 := by
  induction l with
  | nil => intro n; exact Int.le_max_left _ _
  | cons c l ih =>
    intro n
    refine Int.le_trans (ih (peakOne n c)) ?_
    unfold peakOne
    split
    · rename_i h
      have h1 := h.1
      unfold rightP at h1
      have := (of_decide_eq_true h1).2
      omega
    · exact Int.le_refl _
theorem allP_bound (b : List Int) (l : List Ch) (h : b.length ≤ 2097152) : (allP b l).length ≤ 2097152 := by
  have h1 := allP_peak l b
  have h2 := peakP_max l b.length
  omega
theorem surP_bound (b : List Int) (l : List Ch) (ch : List Int) (h : b.length ≤ 2097152) : (surP b l ch).length ≤ 2097152 := by
  have h1 := surP_peak l b ch
  have h2 := peakP_max l b.length
  omega

set_option maxRecDepth 100000 in
set_option maxHeartbeats 1000000 in
theorem wall_any (q : Option Addr) (l cp : Nat) (zs : List Int) (p : Option Addr) (n cap : Nat) (L : List Wd) (w : World) (hz : Bs w q l zs) (hq : q = none → cp = 0) (hl : l ≤ 2097152) (h : Ws w p n L) (hn : n ≤ 1048576) :
    Calls Tryz.prog 115 #[.slice q l cp, .slice p n cap] w fun e w' => ∃ v, e = .returned v ∧ Ob w' w.heap.size 5 v (allP zs (chs L)) ∧ Below w.heap.size w w' := by
  have H := Lib.hid h
  have HZ := Lib.hid hz
  have HQ := Lib.hid hq
  have HL := Lib.hid hl
  have HLL := Lib.hid h.1
  have HBD : Hid (∀ k, (allP zs ((chs L).take k)).length ≤ 2097152) := Lib.hid (fun k => allP_bound zs _ (by rw [hz.1]; exact hl))
  clear h hz hq
  go_enter Tryz.func115, Tryz.ntmps115
  go_wp2_with (go_at_call 28; refine (wclone_any q l cp zs _ HZ.out HQ.out HL.out).mono ?_; rintro e w1 ⟨v1, rfl, ho1, hb1⟩; have HO1 := Lib.hid ho1; have HB1 := Lib.hid hb1; clear ho1 hb1)
  go_loopw [5, 12] (fun v i wr => ∃ k : Nat, k ≤ n ∧ i = .int .i64 (k : Int) ∧ Hid (Ob wr w.heap.size 5 v (allP zs ((chs L).take k))) ∧ Hid (Below w.heap.size w wr)) (fun _ i _ => n - (intOf i).toNat)
  case atStart => exact ⟨0, by omega, rfl, by rw [List.take_zero]; exact HO1, HB1⟩
  case round =>
    clear HO1 HB1
    obtain ⟨k, hk, rfl, HO, HB⟩ := hrel
    by_cases hlt : k < n
    · obtain ⟨b, off, rfl, h0, h1, h2⟩ := (H.out.later HB.out).ptr k hlt
      have HW := Lib.hid ((H.out.later HB.out).fit k)
      have HF := Lib.hid (H.out.fit k)
      have HST := Lib.hid (allP_step zs L k (by rw [HLL.out]; exact hlt))
      generalize L.getD k wd0 = x at *
      obtain ⟨xc, xp, xn, xcap⟩ := x
      go_wp2_with (go_at_call 106; refine (wchange_any w u5 (allP zs ((chs L).take k)) xc xp xn xcap _ (HB.out.alloc HB.out.size _) (HO.out.alloc _) HF.out (HBD.out k)).mono ?_; rintro e w2 ⟨v2, rfl, ho2, hb2⟩; rw [← HST.out] at ho2; have HO2 := Lib.hid ho2; have HB2 := Lib.hid hb2; clear ho2 hb2)
      refine ⟨?_, by simp [intOf]; omega⟩
      first
        | exact ⟨k + 1, by omega, by go_num, HO2, HB2⟩
        | ((repeat apply Exists.intro); refine ⟨?_, rfl⟩; exact ⟨k + 1, by omega, by go_num, HO2, HB2⟩)
    · obtain rfl : k = n := by omega
      have HT : Hid (chs L = (chs L).take k) := Lib.hid (by rw [List.take_of_length_le (by rw [chs_length, HLL.out]; exact Nat.le_refl _)])
      go_wp2
      go_ret
      exact ⟨_, rfl, by rw [HT.out]; exact HO.out, HB.out⟩

theorem peakP_step (N : Int) (L : List Wd) (k : Nat) (hk : k < L.length) : peakP N ((chs L).take (k + 1)) = peakOne (peakP N ((chs L).take k)) (L.getD k wd0).c := by
  rw [chs_step L k hk]
  simp [peakP]
theorem peakOne_wrong {m : Int} {c : Ch} (h : rightP c = false) : peakOne m c = m := by
  unfold peakOne
  rw [if_neg (fun hh => by rw [h] at hh; cases hh.1)]
theorem peakOne_cut {m : Int} {c : Ch} (h : c.cut = true) : peakOne m c = m := by
  unfold peakOne
  rw [if_neg (fun hh => by rw [h] at hh; cases hh.2.1)]
theorem peakOne_none {m : Int} {c : Ch} (h : c.dat.length = 0) : peakOne m c = m := by
  unfold peakOne
  rw [if_neg (fun hh => hh.2.2.1 (List.length_eq_zero_iff.1 h))]
theorem peakOne_max {m : Int} {c : Ch} {o n : Nat} (hr : rightP c = true) (hc : c.cut = false) (ho : c.off = (o : Int)) (hn : c.dat.length = n) (h0 : 0 < n) : peakOne m c = max m ((o : Int) + (n : Int)) := by
  unfold peakOne
  have hne : c.dat ≠ [] := fun h => by rw [h] at hn; simp at hn; omega
  rw [ho, hn]
  by_cases h : m < (o : Int) + (n : Int)
  · rw [if_pos ⟨hr, hc, hne, h⟩]; omega
  · rw [if_neg (fun hh => h hh.2.2.2)]; omega

set_option maxRecDepth 100000 in
set_option maxHeartbeats 1000000 in
theorem wpeak_any (N : Int) (p : Option Addr) (n cap : Nat) (L : List Wd) (w : World) (h : Ws w p n L) (hn : n ≤ 1048576) :
    Calls Tryz.prog 90 #[.int .i64 N, .slice p n cap] w fun e w' => e = .returned (.int .i64 (peakP N (chs L))) ∧ Below w.heap.size w w' := by
  have H := Lib.hid h
  have HLL := Lib.hid h.1
  clear h
  go_enter Tryz.func90, Tryz.ntmps90
  go_wp2
  go_loopw [0, 9] (fun a i wr => ∃ (k : Nat) (m : Int), k ≤ n ∧ i = .int .i64 (k : Int) ∧ a = .int .i64 m ∧ Hid (peakP N ((chs L).take k) = m) ∧ Hid (Below w.heap.size w wr)) (fun _ i _ => n - (intOf i).toNat)
  case atStart => exact ⟨0, N, by omega, rfl, rfl, Lib.hid (by rw [List.take_zero]; rfl), Lib.hid (Below.refl _ _)⟩
  case round =>
    obtain ⟨k, m, hk, rfl, rfl, HM, HB⟩ := hrel
    by_cases hlt : k < n
    · obtain ⟨b, off, rfl, h0, h1, h2⟩ := (H.out.later HB.out).ptr k hlt
      have HW := Lib.hid ((H.out.later HB.out).fit k)
      have HST := Lib.hid (peakP_step N L k (by rw [HLL.out]; exact hlt))
      rw [HM.out] at HST
      clear HM
      generalize L.getD k wd0 = x at *
      obtain ⟨xc, xp, xn, xcap⟩ := x
      have HC1 : Hid (Cw (wr.alloc (.cells #[.bool xc.cut, .int .i64 xc.off, .slice xp xn xcap] 137)) wr.heap.size xc xp xn xcap) := Lib.hid (heap_alloc_new _ _)
      have HX1 : Hid (Below wr.heap.size wr (wr.alloc (.cells #[.bool xc.cut, .int .i64 xc.off, .slice xp xn xcap] 137))) := Lib.hid ((Below.refl _ _).alloc (Nat.le_refl _) _)
      have HS1 : Hid (wr.heap.size + 1 ≤ (wr.alloc (.cells #[.bool xc.cut, .int .i64 xc.off, .slice xp xn xcap] 137)).heap.size) := Lib.hid (by simp)
      have HIN : Hid (chIn (wr.alloc (.cells #[.bool xc.cut, .int .i64 xc.off, .slice xp xn xcap] 137)) xc xp xn xcap) := Lib.hid (HW.out.later HX1.out)
      have HDL : Hid (xc.dat.length = xn) := Lib.hid HW.out.1.1
      have HRT : Hid (∀ W, chIn W xc xp xn xcap → Calls Tryz.prog 116 #[.agg #[.bool xc.cut, .int .i64 xc.off, .slice xp xn xcap]] W fun e w' => e = .returned (.bool (rightP xc)) ∧ W.alloc (.cells #[.bool xc.cut, .int .i64 xc.off, .slice xp xn xcap] 137) = w') := Lib.hid fun W hW => wright_any xc xp xn xcap W hW
      have HRR : Hid (rightP xc = true → ∃ o : Nat, xc.off = (o : Int) ∧ o + xn ≤ 1048576) := Lib.hid (fun hr => by
        unfold rightP at hr
        obtain ⟨o0, o1⟩ := of_decide_eq_true hr
        rw [HDL.out] at o1
        exact ⟨xc.off.toNat, by omega, by omega⟩)
      go_wp2_with fail
      refine (HRT.out _ HIN.out).mono ?_
      rintro e w2 ⟨rfl, hw2⟩
      have HB2 : Hid (Below w.heap.size w w2) := Lib.hid (by rw [← hw2]; exact (HB.out.trans (HX1.out.mono HB.out.size)).alloc (Nat.le_trans HB.out.size HX1.out.size) _)
      have HC2 : Hid (Cw w2 wr.heap.size xc xp xn xcap) := Lib.hid (HC1.out.keep (by rw [← hw2]; exact (Below.refl _ _).alloc HS1.out _))
      clear hw2 h0 h1 h2 HC1 HX1 HS1 HIN
      obtain ⟨h0, h1, h2⟩ := HC2.out.cells
      have HRD : Hid (∀ m' : Int, peakOne m xc = m' → Hid (peakP N ((chs L).take (k + 1)) = m')) := Lib.hid (fun m' e => Lib.hid (HST.out.trans e))
      cases hr : rightP xc
      · have HE := HRD.out _ (peakOne_wrong hr)
        clear hr
        go_wp2
        refine ⟨?_, by simp [intOf]; omega⟩
        first
          | exact ⟨k + 1, m, by omega, by go_num, rfl, HE, HB2⟩
          | ((repeat apply Exists.intro); refine ⟨?_, rfl⟩; exact ⟨k + 1, m, by omega, by go_num, rfl, HE, HB2⟩)
      · obtain ⟨o, ho, hon⟩ := HRR.out hr
        rw [ho] at h1
        cases hcut : xc.cut
        · rw [hcut] at h0
          by_cases hn0 : xn = 0
          · have HE := HRD.out _ (peakOne_none (HDL.out.trans hn0))
            have hn0' : decide ((xn : Int) > 0) = false := by simp; omega
            clear hr ho hcut
            go_wp2
            refine ⟨?_, by simp [intOf]; omega⟩
            first
              | exact ⟨k + 1, m, by omega, by go_num, rfl, HE, HB2⟩
              | ((repeat apply Exists.intro); refine ⟨?_, rfl⟩; exact ⟨k + 1, m, by omega, by go_num, rfl, HE, HB2⟩)
          · have HE := HRD.out _ (peakOne_max hr hcut ho HDL.out (by omega))
            have hn0' : decide ((xn : Int) > 0) = true := by simp; omega
            clear hr ho hcut
            go_wp2
            refine ⟨?_, by simp [intOf]; omega⟩
            first
              | exact ⟨k + 1, _, by omega, by go_num, rfl, HE, HB2⟩
              | ((repeat apply Exists.intro); refine ⟨?_, rfl⟩; exact ⟨k + 1, _, by omega, by go_num, rfl, HE, HB2⟩)
        · have HE := HRD.out _ (peakOne_cut hcut)
          rw [hcut] at h0
          clear hr ho hcut
          go_wp2
          refine ⟨?_, by simp [intOf]; omega⟩
          first
            | exact ⟨k + 1, m, by omega, by go_num, rfl, HE, HB2⟩
            | ((repeat apply Exists.intro); refine ⟨?_, rfl⟩; exact ⟨k + 1, m, by omega, by go_num, rfl, HE, HB2⟩)
    · obtain rfl : k = n := by omega
      have HT : Hid (peakP N (chs L) = m) := Lib.hid (by rw [← HM.out, List.take_of_length_le (by rw [chs_length, HLL.out]; exact Nat.le_refl _)])
      go_wp2
      go_ret
      exact ⟨by rw [HT.out]; rfl, HB.out⟩
end Go.Proofs.YtncbgddgkpaoeaaGreat

namespace Go.Proofs.YtncbgddgkpaoeaaGreat
set_option linter.unusedVariables false
open Go.RowKit Go.Lib

theorem surP_append : ∀ (l1 l2 : List Ch) (c1 c2 : List Int) (b : List Int), l1.length = c1.length → surP b (l1 ++ l2) (c1 ++ c2) = surP (surP b l1 c1) l2 c2
  | [], l2, [], c2, b, _ => by simp [surP_none]
  | c :: l1, l2, x :: c1, c2, b, h => by
    show surP (if 0 < x then appP b c (mostP c x) else b) (l1 ++ l2) (c1 ++ c2) = surP (surP (if 0 < x then appP b c (mostP c x) else b) l1 c1) l2 c2
    exact surP_append l1 l2 c1 c2 _ (by simpa using h)
  | [], l2, x :: c1, c2, b, h => by simp at h
  | c :: l1, l2, [], c2, b, h => by simp at h
theorem surP_take : ∀ (l : List Ch) (ch : List Int) (b : List Int) (K : Nat), K = min l.length ch.length → surP b l ch = surP b (l.take K) (ch.take K)
  | [], ch, b, K, h => by simp [surP]
  | c :: l, [], b, K, h => by
    obtain rfl : K = 0 := by simpa using h
    simp [surP]
  | c :: l, x :: ch, b, K, h => by
    obtain ⟨K', rfl⟩ : ∃ K', K = K' + 1 := ⟨K - 1, by simp at h; omega⟩
    show surP (if 0 < x then appP b c (mostP c x) else b) l ch = surP (if 0 < x then appP b c (mostP c x) else b) (l.take K') (ch.take K')
    exact surP_take l ch _ K' (by simp at h; omega)
theorem surP_step (b : List Int) (L : List Wd) (ch : List Int) (k : Nat) (hk : k < L.length) (hc : k < ch.length) :
    surP b ((chs L).take (k + 1)) (ch.take (k + 1)) = (if 0 < ch.getD k 0 then appP (surP b ((chs L).take k) (ch.take k)) (L.getD k wd0).c (mostP (L.getD k wd0).c (ch.getD k 0)) else surP b ((chs L).take k) (ch.take k)) := by
  have e : ch.take (k + 1) = ch.take k ++ [ch.getD k 0] := by
    rw [List.take_succ_eq_append_getElem hc, List.getD_eq_getElem?_getD, List.getElem?_eq_getElem hc]; rfl
  rw [chs_step L k hk, e, surP_append _ _ _ _ _ (by rw [List.length_take, List.length_take, chs_length]; omega)]
  rfl

set_option maxRecDepth 100000 in
set_option maxHeartbeats 2000000 in
theorem wsurvive_any (q : Option Addr) (l cp : Nat) (zs : List Int) (p : Option Addr) (n cap : Nat) (L : List Wd) (r : Option Addr) (m cm : Nat) (ch : List Int) (w : World) (hz : Bs w q l zs) (hq : q = none → cp = 0) (hl : l ≤ 2097152) (h : Ws w p n L) (hn : n ≤ 1048576) (hr : Bs w r m ch) (hm : m ≤ 2097152) :
    Calls Tryz.prog 83 #[.slice q l cp, .slice p n cap, .slice r m cm] w fun e w' => ∃ v, e = .returned v ∧ Ob w' w.heap.size 5 v (surP zs (chs L) ch) ∧ Below w.heap.size w w' := by
  have H := Lib.hid h
  have HR := Lib.hid hr
  have HZ := Lib.hid hz
  have HQ := Lib.hid hq
  have HL := Lib.hid hl
  have HLL := Lib.hid h.1
  have HCL := Lib.hid hr.1
  have HBD : Hid (∀ k, (surP zs ((chs L).take k) (ch.take k)).length ≤ 2097152) := Lib.hid (fun k => surP_bound zs _ _ (by rw [hz.1]; exact hl))
  obtain ⟨K, hK⟩ : ∃ K, min n m = K := ⟨_, rfl⟩
  have hKn : K ≤ n := by omega
  have hKm : K ≤ m := by omega
  have hmin : min (n : Int) (m : Int) = (K : Int) := by omega
  have HT : Hid (surP zs (chs L) ch = surP zs ((chs L).take K) (ch.take K)) := Lib.hid (surP_take _ _ _ _ (by rw [chs_length, h.1, hr.1, hK]))
  clear h hz hq hr hK
  go_enter Tryz.func83, Tryz.ntmps83
  go_wp2_with (go_at_call 28; refine (wclone_any q l cp zs _ HZ.out HQ.out HL.out).mono ?_; rintro e w1 ⟨v1, rfl, ho1, hb1⟩; have HO1 := Lib.hid ho1; have HB1 := Lib.hid hb1; clear ho1 hb1)
  go_loopw [7, 16] (fun v i wr => ∃ k : Nat, k ≤ K ∧ i = .int .i64 (k : Int) ∧ Hid (Ob wr w.heap.size 5 v (surP zs ((chs L).take k) (ch.take k))) ∧ Hid (Below w.heap.size w wr)) (fun _ i _ => K - (intOf i).toNat)
  case atStart => exact ⟨0, by omega, rfl, by rw [List.take_zero, List.take_zero, surP_none]; exact HO1, HB1⟩
  case round =>
    clear HO1 HB1
    obtain ⟨k, hk, rfl, HO, HB⟩ := hrel
    by_cases hlt : k < K
    · obtain ⟨b, off, rfl, hcl⟩ := H.out.ptr k (by omega)
      have hpp : ∃ b2 off2, r = some ⟨b2, off2, none⟩ ∧ ∀ j, j < m → w.cell? ⟨b2, off2 + j, none⟩ = some (.int .u8 (ch.getD j 0)) := by
        rcases HR.out.2.2 with h | h
        · omega
        · exact h
      obtain ⟨b2, off2, rfl, hcc⟩ := hpp
      have hx := hcc k (by omega)
      have hxb := HR.out.2.1 k
      have HF := Lib.hid (H.out.fit k)
      have HST := Lib.hid (surP_step zs L ch k (by rw [HLL.out]; omega) (by rw [HCL.out]; omega))
      rw [← survP_app _ _ _ hxb.1] at HST
      generalize L.getD k wd0 = xw at *
      obtain ⟨xc, xp, xn, xcap⟩ := xw
      generalize ch.getD k 0 = x at *
      have HK : Hid (∀ W, Below w.heap.size w W → W.cell? ⟨b, off + k * 3, none⟩ = some (.bool xc.cut) ∧ W.cell? ⟨b, off + k * 3 + 1, none⟩ = some (.int .i64 xc.off) ∧ W.cell? ⟨b, off + k * 3 + 2, none⟩ = some (.slice xp xn xcap) ∧ W.cell? ⟨b2, off2 + k, none⟩ = some (.int .u8 x)) := Lib.hid (fun W hW => by
        refine ⟨?_, ?_, ?_, ?_⟩
        · rw [hW.cell (World.block_lt_of_cell? w _ hcl.1)]; exact hcl.1
        · rw [hW.cell (World.block_lt_of_cell? w _ hcl.2.1)]; exact hcl.2.1
        · rw [hW.cell (World.block_lt_of_cell? w _ hcl.2.2)]; exact hcl.2.2
        · rw [hW.cell (World.block_lt_of_cell? w _ hx)]; exact hx)
      clear hcc hcl hx
      have k1 := HK.out _ HB.out
      have HB0 := Lib.hid (below_step HB.out ((Below.refl _ _).drew))
      have HO0 := Lib.hid (HO.out.later ((Below.refl _ _).drew))
      have k0 := HK.out _ HB0.out
      obtain ⟨hx0, hx1⟩ := hxb
      have hkn : (k : Int) < (n : Int) := by omega
      have hkm : (k : Int) < (m : Int) := by omega
      have hk0 : (0 : Int) ≤ (k : Int) := by omega
      go_wp2
      go_region_held3 (fun W => W.cell? ⟨b, off + k * 3, none⟩ = some (.bool xc.cut) ∧ W.cell? ⟨b, off + k * 3 + 1, none⟩ = some (.int .i64 xc.off) ∧ W.cell? ⟨b, off + k * 3 + 2, none⟩ = some (.slice xp xn xcap) ∧ W.cell? ⟨b2, off2 + k, none⟩ = some (.int .u8 x)) (first | exact k0 | exact k1 | exact k2 | exact k3) (first
        | (go_at_call 107; refine (wsurvivor_any xc xp xn xcap x _ (HF.out.later HB0.out) hx0 hx1).mono ?_; rintro e w2 ⟨p', n', cap', rfl, hin2, hb2⟩; have HIN2 := Lib.hid (hin2 w HF.out); have HO2 := Lib.hid (HO0.out.later hb2); have HB2 := Lib.hid (below_step HB0.out hb2); have k2 := HK.out _ HB2.out; clear hin2 hb2)
        | (go_at_call 106; refine (wchange_any w u7 _ (survP xc x) p' n' cap' _ HB2.out HO2.out HIN2.out (HBD.out k)).mono ?_; rintro e w3 ⟨v3, rfl, ho3, hb3⟩; rw [← HST.out] at ho3; have HO3 := Lib.hid ho3; have HB3 := Lib.hid hb3; have k3 := HK.out _ hb3; clear ho3 hb3))
      go_wp2
      refine ⟨?_, by simp [intOf]; omega⟩
      first
        | exact ⟨k + 1, by omega, by go_num, HO3, HB3⟩
        | ((repeat apply Exists.intro); refine ⟨?_, rfl⟩; exact ⟨k + 1, by omega, by go_num, HO3, HB3⟩)
    · obtain rfl : k = K := by omega
      go_wp2
      go_ret
      exact ⟨_, rfl, by rw [HT.out]; exact HO.out, HB.out⟩
end Go.Proofs.YtncbgddgkpaoeaaGreat

namespace Go.Proofs.YtncbgddgkpaoeaaGreat
set_option linter.unusedVariables false

/-- a file: the bytes that last, and changes that may be lost -/
structure Fi where
  b : List Int
  l : List Ch
def nowP (x : Fi) : List Int := allP x.b x.l
def appendP (x : Fi) (b : List Int) : Fi := if 1048576 < (nowP x).length + b.length then x else if b.length = 0 then x else ⟨x.b, x.l ++ [⟨((nowP x).length : Int), false, b⟩]⟩
def appendE (x : Fi) (b : List Int) : Int := if 1048576 < (nowP x).length + b.length then 18 else 0
def cutP (x : Fi) (n : Int) : Fi := if n < 0 ∨ ((nowP x).length : Int) < n then x else ⟨x.b, x.l ++ [⟨n, true, []⟩]⟩
def cutE (x : Fi) (n : Int) : Int := if n < 0 ∨ ((nowP x).length : Int) < n then 20 else 0
def crashP (x : Fi) (ch : List Int) : Fi := ⟨surP x.b x.l ch, []⟩
def restP (x : Fi) (ch : List Int) : List Int := ch.drop x.l.length
def roomP (x : Fi) : Int := peakP x.b.length x.l
/-- sizes that the walks bear -/
def Fi.ok (x : Fi) : Prop := x.b.length ≤ 2097152 ∧ x.l.length ≤ 1048575 ∧ ∀ c ∈ x.l, c.dat.length ≤ 2097152

theorem nowP_bound {x : Fi} (h : x.ok) : (nowP x).length ≤ 2097152 := allP_bound _ _ h.1
theorem nowP_le {x : Fi} (h : x.b.length ≤ 1048576) : (nowP x).length ≤ 1048576 := by
  have h1 := allP_peak x.l x.b
  have h2 := peakP_max x.l x.b.length
  unfold nowP
  omega
theorem roomP_crash (x : Fi) (ch : List Int) : roomP (crashP x ch) ≤ roomP x := surP_peak x.l x.b ch
/-- behind a sync -/
def syncP (x : Fi) : Fi := ⟨nowP x, []⟩
theorem surP_nil (b ch : List Int) : surP b [] ch = b := by cases ch <;> rfl
theorem crash_sync (x : Fi) (ch : List Int) : crashP (syncP x) ch = syncP x := by
  unfold crashP syncP
  rw [surP_nil]
theorem now_sync (x : Fi) : nowP (syncP x) = nowP x := rfl
theorem putP_end (b d : List Int) : putP b b.length d = b ++ d := by
  unfold putP
  split
  · rename_i h; subst h; simp
  · rw [List.take_length, Nat.sub_self]
    rw [List.drop_of_length_le (by omega)]
    simp
theorem append_right {b d : List Int} (h : ¬ 1048576 < b.length + d.length) : rightP ⟨(b.length : Int), false, d⟩ = true := by
  unfold rightP
  refine decide_eq_true ⟨by simp, ?_⟩
  show (b.length : Int) ≤ 1048576 - (d.length : Int)
  omega
theorem appP_end {b d : List Int} (h : ¬ 1048576 < b.length + d.length) (m : Nat) : appP b ⟨(b.length : Int), false, d⟩ m = b ++ d.take m := by
  unfold appP
  rw [if_neg (by rw [append_right h]; simp), if_neg (by simp)]
  exact putP_end b (d.take m)
/-- appended behind a sync -/
theorem now_append (b d : List Int) (h : ¬ 1048576 < b.length + d.length) : nowP (appendP ⟨b, []⟩ d) = b ++ d := by
  unfold appendP
  rw [if_neg (by exact h)]
  by_cases h0 : d.length = 0
  · rw [if_pos h0]
    obtain rfl : d = [] := List.length_eq_zero_iff.1 h0
    simp [nowP, allP]
  · rw [if_neg h0]
    show appP b ⟨(b.length : Int), false, d⟩ d.length = b ++ d
    rw [appP_end h, List.take_length]
/-- what a crash leaves of it -/
theorem crash_append (b d ch : List Int) : ∃ k, k ≤ (b ++ d).length ∧ b.length ≤ k ∧ nowP (crashP (appendP ⟨b, []⟩ d) ch) = (b ++ d).take k := by
  have h0 : nowP (crashP ⟨b, []⟩ ch) = (b ++ d).take b.length := by
    show surP b [] ch = _
    rw [List.take_append_of_le_length (Nat.le_refl _), List.take_length, surP_nil]
  have e0 : ∃ k, k ≤ (b ++ d).length ∧ b.length ≤ k ∧ nowP (crashP ⟨b, []⟩ ch) = (b ++ d).take k := ⟨b.length, by simp, Nat.le_refl _, h0⟩
  unfold appendP
  split
  · exact e0
  · rename_i h
    split
    · exact e0
    · show ∃ k, k ≤ (b ++ d).length ∧ b.length ≤ k ∧ surP b [⟨(b.length : Int), false, d⟩] ch = (b ++ d).take k
      cases ch with
      | nil => exact ⟨b.length, by simp, Nat.le_refl _, by rw [List.take_append_of_le_length (Nat.le_refl _), List.take_length]; rfl⟩
      | cons x ch =>
        have hr : ¬ 1048576 < b.length + d.length := h
        show ∃ k, k ≤ (b ++ d).length ∧ b.length ≤ k ∧ surP (if 0 < x then appP b ⟨(b.length : Int), false, d⟩ (mostP ⟨(b.length : Int), false, d⟩ x) else b) [] ch = (b ++ d).take k
        rw [surP_nil]
        by_cases hx : 0 < x
        · rw [if_pos hx, appP_end hr]
          generalize mostP ⟨(b.length : Int), false, d⟩ x = m
          refine ⟨b.length + min m d.length, by simp; omega, Nat.le_add_right _ _, ?_⟩
          rw [List.take_append, List.take_of_length_le (l := b) (by omega), show b.length + min m d.length - b.length = min m d.length by omega]
          congr 1
          rcases Nat.le_total m d.length with hm | hm
          · rw [Nat.min_eq_left hm]
          · rw [Nat.min_eq_right hm, List.take_length, List.take_of_length_le hm]
        · rw [if_neg hx]
          exact ⟨b.length, by simp, Nat.le_refl _, by rw [List.take_append_of_le_length (Nat.le_refl _), List.take_length]⟩

theorem appendP_ok {x : Fi} {b : List Int} (h : x.ok) (hb : b.length ≤ 2097152) (hl : x.l.length ≤ 1048574) : (appendP x b).ok := by
  unfold appendP
  split
  · exact h
  · split
    · exact h
    · refine ⟨h.1, by simp; omega, fun c hc => ?_⟩
      rcases List.mem_append.1 hc with hc | hc
      · exact h.2.2 c hc
      · rw [List.mem_singleton] at hc
        subst hc
        exact hb
theorem cutP_ok {x : Fi} {n : Int} (h : x.ok) (hl : x.l.length ≤ 1048574) : (cutP x n).ok := by
  unfold cutP
  split
  · exact h
  · refine ⟨h.1, by simp; omega, fun c hc => ?_⟩
    rcases List.mem_append.1 hc with hc | hc
    · exact h.2.2 c hc
    · rw [List.mem_singleton] at hc
      subst hc
      simp
theorem crashP_ok {x : Fi} (ch : List Int) (h : x.ok) : (crashP x ch).ok := ⟨surP_bound _ _ _ h.1, by simp [crashP], fun c hc => by simp [crashP] at hc⟩
theorem syncP_ok {x : Fi} (h : x.ok) : (syncP x).ok := ⟨nowP_bound h, by simp [syncP], fun c hc => by simp [syncP] at hc⟩
end Go.Proofs.YtncbgddgkpaoeaaGreat

namespace Go.Proofs.YtncbgddgkpaoeaaGreat
set_option linter.unusedVariables false

/-- a file and its number -/
structure Kt where
  id : Int
  x : Fi
def fi0 : Fi := ⟨[], []⟩
def kt0 : Kt := ⟨0, fi0⟩
def idK (K : List Kt) : List Int := K.map Kt.id
def getK : List Kt → Int → Option Fi
  | [], _ => none
  | k :: K, i => if k.id = i then some k.x else getK K i
def atK (K : List Kt) (i : Int) : Fi := (getK K i).getD fi0
def setK (K : List Kt) (i : Int) (x : Fi) : List Kt := K.map fun k => if k.id = i then ⟨k.id, x⟩ else k
def usedK : List Kt → Int
  | [] => 0
  | k :: K => roomP k.x + usedK K
def tidyK (K : List Kt) (l : List Int) : List Kt := l.map fun i => ⟨i, atK K i⟩
def crK : List Kt → List Int → List Kt
  | [], _ => []
  | k :: K, ch => ⟨k.id, crashP k.x ch⟩ :: crK K (restP k.x ch)

/-- a disk -/
structure Dk where
  lb : Int
  lf : Int
  F : Fd
  K : List Kt
  last : Int
  fuse : Int
  off : Bool
  calls : Int
/-- a call -/
structure Cl where
  k : Int
  s : ByteArray
  t : ByteArray
  dat : List Int
  n : Int
def normF (n : Int) : Int := if n < 0 then -1 else n
def downP (d : Dk) : Bool := d.off || decide (d.fuse = 0)
def tickP (d : Dk) : Dk := { d with calls := d.calls + 1, fuse := if 0 < d.fuse then d.fuse - 1 else d.fuse }
def offP (d : Dk) : Dk := { d with off := true }
def createP (d : Dk) (s : ByteArray) : Dk × Int :=
  if d.lf ≤ (d.K.length : Int) then (d, 8)
  else if errP diskP d.F ⟨1, s, ⟨#[]⟩, d.last + 1⟩ = 0 then ({ d with F := doP diskP d.F ⟨1, s, ⟨#[]⟩, d.last + 1⟩, K := d.K ++ [⟨d.last + 1, fi0⟩], last := d.last + 1 }, 0)
  else (d, errP diskP d.F ⟨1, s, ⟨#[]⟩, d.last + 1⟩)
def renP (d : Dk) (c : Cg) : Dk × Int := ({ d with F := doP diskP d.F c }, errP diskP d.F c)
def syncDirP (d : Dk) : Dk × Int := ({ d with F := syncQ d.F, K := tidyK d.K (idsP (syncQ d.F)) }, 0)
def editP (d : Dk) (s : ByteArray) (h : Fi → Fi × Int) : Dk × Int :=
  match findP (nowQ d.F) s with
  | none => (d, 6)
  | some i => if (h (atK d.K i)).2 = 0 then ({ d with K := setK d.K i (h (atK d.K i)).1 }, 0) else (d, (h (atK d.K i)).2)
def appX (d : Dk) (b : List Int) (x : Fi) : Fi × Int :=
  (appendP x b, if appendE x b ≠ 0 then appendE x b else if roomP x < roomP (appendP x b) ∧ d.lb < usedK d.K + (roomP (appendP x b) - roomP x) then 9 else 0)
def cutX (n : Int) (x : Fi) : Fi × Int := (cutP x n, cutE x n)
def synX (x : Fi) : Fi × Int := (syncP x, 0)
def crashD (d : Dk) (ch : List Int) : Dk :=
  { d with F := crashQ d.F (ch.headD 0).toNat, K := tidyK (crK d.K ch.tail) (idsP (crashQ d.F (ch.headD 0).toNat)), off := false, fuse := -1 }
def effP (d : Dk) (c : Cl) : Dk × Int :=
  if c.k = 1 then createP d c.s
  else if c.k = 2 then editP d c.s (appX d c.dat)
  else if c.k = 3 then editP d c.s (cutX c.n)
  else if c.k = 4 then editP d c.s synX
  else if c.k = 5 then renP d ⟨2, c.s, c.t, 0⟩
  else if c.k = 6 then renP d ⟨3, c.s, ⟨#[]⟩, 0⟩
  else syncDirP d
def powP (d : Dk) (f : Dk → Dk × Int) : Dk × Int := if downP d then (offP d, 11) else f (tickP d)
def stepP (d : Dk) (c : Cl) : Dk × Int :=
  if 1 ≤ c.k ∧ c.k ≤ 7 then powP d fun d => effP d c
  else if c.k = 8 then ({ d with fuse := normF c.n }, 0)
  else if c.k = 9 then (crashD d c.dat, 0)
  else (d, 0)
def leftP (l u : Int) : Int := max l u - u
def newD (lb lf : Int) : Dk := ⟨lb, lf, ⟨[], []⟩, [], 0, -1, false, 0⟩
def bytesP (d : Dk) (s : ByteArray) : List Int × Int :=
  if d.off then ([], 11) else match findP (nowQ d.F) s with
  | none => ([], 6)
  | some i => (nowP (atK d.K i), 0)
def readP (d : Dk) (s : ByteArray) (o n : Int) : List Int × Int :=
  if (bytesP d s).2 ≠ 0 then ([], (bytesP d s).2)
  else if o < 0 ∨ n < 0 ∨ ((bytesP d s).1.length : Int) - o < n then ([], 20)
  else (((bytesP d s).1.drop o.toNat).take n.toNat, 0)
def namesP (d : Dk) : List ByteArray := (nowQ d.F).map Nd.s
def imageP (d : Dk) : List (ByteArray × List Int) := d.F.l.map fun x => (x.s, (atK d.K x.id).b)

/-! ### files by their numbers -/
theorem idK_append (K M : List Kt) : idK (K ++ M) = idK K ++ idK M := List.map_append
theorem getK_none {K : List Kt} {i : Int} (h : i ∉ idK K) : getK K i = none := by
  induction K with
  | nil => rfl
  | cons k K ih =>
    rw [getK, if_neg (fun e => h (by rw [← e]; exact List.mem_cons_self))]
    exact ih (fun e => h (List.mem_cons_of_mem _ e))
theorem getK_some {K : List Kt} {i : Int} (h : i ∈ idK K) : ∃ x, getK K i = some x := by
  induction K with
  | nil => cases h
  | cons k K ih =>
    rw [getK]
    by_cases e : k.id = i
    · exact ⟨k.x, if_pos e⟩
    · rw [if_neg e]
      rcases List.mem_cons.1 h with h | h
      · exact absurd h.symm e
      · exact ih h
theorem getK_in {K : List Kt} {i : Int} {x : Fi} (h : getK K i = some x) : i ∈ idK K := by
  apply Classical.byContradiction
  intro e
  rw [getK_none e] at h
  cases h
theorem getK_mem {K : List Kt} {i : Int} {x : Fi} (h : getK K i = some x) : (⟨i, x⟩ : Kt) ∈ K := by
  induction K with
  | nil => cases h
  | cons k K ih =>
    rw [getK] at h
    by_cases e : k.id = i
    · rw [if_pos e] at h
      obtain rfl := Option.some.inj h
      subst e
      exact List.mem_cons_self
    · rw [if_neg e] at h
      exact List.mem_cons_of_mem _ (ih h)
theorem atK_mem {K : List Kt} {i : Int} (h : i ∈ idK K) : (⟨i, atK K i⟩ : Kt) ∈ K := by
  obtain ⟨x, hx⟩ := getK_some h
  unfold atK
  rw [hx]
  exact getK_mem hx
theorem getK_append (K M : List Kt) (i : Int) : getK (K ++ M) i = (getK K i).or (getK M i) := by
  induction K with
  | nil => rfl
  | cons k K ih =>
    rw [List.cons_append, getK, getK]
    split
    · rfl
    · exact ih
theorem idK_set (K : List Kt) (i : Int) (x : Fi) : idK (setK K i x) = idK K := by
  unfold idK setK
  rw [List.map_map]
  apply List.map_congr_left
  intro k _
  show (if k.id = i then (⟨k.id, x⟩ : Kt) else k).id = k.id
  split <;> rfl
theorem getK_set {K : List Kt} {i : Int} (x : Fi) (h : i ∈ idK K) (j : Int) : getK (setK K i x) j = if j = i then some x else getK K j := by
  induction K with
  | nil => cases h
  | cons k K ih =>
    show getK ((if k.id = i then ⟨k.id, x⟩ else k) :: setK K i x) j = _
    by_cases e : k.id = i
    · rw [if_pos e, getK, getK]
      dsimp only
      by_cases e2 : j = i
      · rw [if_pos (by omega), if_pos e2]
      · rw [if_neg (by omega), if_neg e2, if_neg (by omega)]
        by_cases h3 : i ∈ idK K
        · rw [ih h3, if_neg e2]
        · have : setK K i x = K := by
            unfold setK
            conv => rhs; rw [← List.map_id K]
            apply List.map_congr_left
            intro k' hk'
            exact if_neg (fun e' => h3 (by rw [← e']; exact List.mem_map_of_mem hk'))
          rw [this]
    · rw [if_neg e, getK, getK]
      have h3 : i ∈ idK K := by
        rcases List.mem_cons.1 h with h | h
        · exact absurd h.symm e
        · exact h
      by_cases e2 : k.id = j
      · rw [if_pos e2, if_pos e2, if_neg (by omega)]
      · rw [if_neg e2, if_neg e2, ih h3]
theorem mem_set {K : List Kt} {i : Int} {x : Fi} {k : Kt} (h : k ∈ setK K i x) : k ∈ K ∨ k.x = x := by
  obtain ⟨k', hk, rfl⟩ := List.mem_map.1 h
  split
  · exact Or.inr rfl
  · exact Or.inl hk
theorem idK_tidy (K : List Kt) (l : List Int) : idK (tidyK K l) = l := by
  unfold idK tidyK
  rw [List.map_map]
  conv => rhs; rw [← List.map_id l]
  apply List.map_congr_left
  intro i _
  rfl
theorem getK_tidy (K : List Kt) (l : List Int) (j : Int) : getK (tidyK K l) j = if j ∈ l then some (atK K j) else none := by
  induction l with
  | nil => rfl
  | cons i l ih =>
    show getK (⟨i, atK K i⟩ :: tidyK K l) j = _
    rw [getK]
    dsimp only
    by_cases e : i = j
    · subst e
      rw [if_pos rfl, if_pos List.mem_cons_self]
    · rw [if_neg e, ih]
      by_cases h : j ∈ l
      · rw [if_pos h, if_pos (List.mem_cons_of_mem _ h)]
      · rw [if_neg h, if_neg (fun h' => by
          rcases List.mem_cons.1 h' with h' | h'
          · exact e h'.symm
          · exact h h')]
theorem irises_ne {i : Int} {l : List Int} (h : irises (i :: l)) : i ∉ l := fun hm => by
  have := (List.pairwise_cons.1 h).1 i hm
  omega
theorem tidy_self {K : List Kt} (h : irises (idK K)) : tidyK K (idK K) = K := by
  have key : ∀ (A B : List Kt), irises (idK (A ++ B)) → tidyK (A ++ B) (idK B) = B := by
    intro A B
    induction B generalizing A with
    | nil => intro _; rfl
    | cons k B ih =>
      intro hr
      have e : A ++ k :: B = (A ++ [k]) ++ B := by simp
      have h1 := ih (A ++ [k]) (by rw [← e]; exact hr)
      rw [← e] at h1
      show (⟨k.id, atK (A ++ k :: B) k.id⟩ : Kt) :: tidyK (A ++ k :: B) (idK B) = k :: B
      rw [h1]
      have hn : k.id ∉ idK A := fun hm => by
        rw [idK_append] at hr
        have := (List.pairwise_append.1 hr).2.2 k.id hm k.id List.mem_cons_self
        omega
      unfold atK
      rw [getK_append, getK_none hn, getK, if_pos rfl]
      rfl
  exact key [] K h
theorem getK_filter (K : List Kt) (l : List Int) (j : Int) : getK (K.filter fun k => decide (k.id ∈ l)) j = if j ∈ l then getK K j else none := by
  induction K with
  | nil => split <;> rfl
  | cons k K ih =>
    rw [List.filter_cons]
    by_cases h : k.id ∈ l
    · rw [if_pos (by simpa using h), getK, getK, ih]
      by_cases e : k.id = j
      · subst e; rw [if_pos rfl, if_pos h, if_pos rfl]
      · rw [if_neg e, if_neg e]
    · rw [if_neg (by simpa using h), ih, getK]
      by_cases e : k.id = j
      · subst e; rw [if_neg h, if_neg h]
      · rw [if_neg e]
theorem tidy_filter {K : List Kt} {l : List Int} (hK : irises (idK K)) (hl : irises l) (hs : ∀ i ∈ l, i ∈ idK K) : tidyK K l = K.filter fun k => decide (k.id ∈ l) := by
  have hsub : (K.filter fun k => decide (k.id ∈ l)).Sublist K := List.filter_sublist
  have hr : irises (idK (K.filter fun k => decide (k.id ∈ l))) := List.Pairwise.sublist (hsub.map _) hK
  have hi : idK (K.filter fun k => decide (k.id ∈ l)) = l := by
    refine irises_ext hr hl fun i => ?_
    constructor
    · intro h
      obtain ⟨k, hk, rfl⟩ := List.mem_map.1 h
      exact of_decide_eq_true (List.mem_filter.1 hk).2
    · intro h
      obtain ⟨k, hk, e⟩ := List.mem_map.1 (hs i h)
      exact List.mem_map.2 ⟨k, List.mem_filter.2 ⟨hk, by rw [e]; simpa using h⟩, e⟩
  have h1 := tidy_self hr
  rw [hi] at h1
  conv => rhs; rw [← h1]
  unfold tidyK
  apply List.map_congr_left
  intro i hil
  unfold atK
  rw [getK_filter, if_pos hil]
theorem tidy_more {K : List Kt} {n : Int} (hK : irises (idK K)) (hn : n ∉ idK K) : tidyK K (idK K ++ [n]) = K ++ [⟨n, fi0⟩] := by
  unfold tidyK
  rw [List.map_append]
  have := tidy_self hK
  unfold tidyK at this
  rw [this]
  simp only [List.map_cons, List.map_nil, atK, getK_none hn, Option.getD_none]
theorem idK_cr (K : List Kt) (ch : List Int) : idK (crK K ch) = idK K := by
  induction K generalizing ch with
  | nil => rfl
  | cons k K ih =>
    show k.id :: idK (crK K _) = k.id :: idK K
    rw [ih]
theorem mem_cr {K : List Kt} {ch : List Int} {k : Kt} (h : k ∈ crK K ch) : ∃ k' ∈ K, ∃ c, k = ⟨k'.id, crashP k'.x c⟩ := by
  induction K generalizing ch with
  | nil => cases h
  | cons k0 K ih =>
    rcases List.mem_cons.1 h with rfl | h
    · exact ⟨k0, List.mem_cons_self, _, rfl⟩
    · obtain ⟨k', hk, c, e⟩ := ih h
      exact ⟨k', List.mem_cons_of_mem _ hk, c, e⟩

/-! ### room -/
theorem roomP_ge (x : Fi) : (x.b.length : Int) ≤ roomP x := peakP_ge _ _
theorem roomP_pos (x : Fi) : 0 ≤ roomP x := by have := roomP_ge x; omega
theorem peakP_max' (l : List Ch) : ∀ n : Int, peakP n l ≤ max n 1048576 := by
  induction l with
  | nil => intro n; show n ≤ _; omega
  | cons c l ih =>
    intro n
    have h1 := ih (peakOne n c)
    have h2 : peakOne n c ≤ max n 1048576 := by
      unfold peakOne
      split
      · rename_i h
        have := of_decide_eq_true h.1
        omega
      · omega
    show peakP (peakOne n c) l ≤ _
    omega
theorem roomP_le {x : Fi} (h : x.b.length ≤ 1048576) : roomP x ≤ 1048576 := by
  have := peakP_max' x.l x.b.length
  unfold roomP
  omega
theorem usedK_pos (K : List Kt) : 0 ≤ usedK K := by
  induction K with
  | nil => exact Int.le_refl _
  | cons k K ih =>
    have := roomP_pos k.x
    rw [usedK]; omega
theorem usedK_le {K : List Kt} (h : ∀ k ∈ K, k.x.b.length ≤ 1048576) : usedK K ≤ (K.length : Int) * 1048576 := by
  induction K with
  | nil => exact Int.le_refl _
  | cons k K ih =>
    have h1 := roomP_le (h k List.mem_cons_self)
    have h2 := ih fun k' hk => h k' (List.mem_cons_of_mem _ hk)
    rw [usedK, List.length_cons]
    omega
theorem usedK_filter (K : List Kt) (p : Kt → Bool) : usedK (K.filter p) ≤ usedK K := by
  induction K with
  | nil => exact Int.le_refl _
  | cons k K ih =>
    have := roomP_pos k.x
    rw [List.filter_cons]
    split
    · rw [usedK, usedK]; omega
    · rw [usedK]; omega
theorem usedK_cr (K : List Kt) (ch : List Int) : usedK (crK K ch) ≤ usedK K := by
  induction K generalizing ch with
  | nil => exact Int.le_refl _
  | cons k K ih =>
    have h1 := roomP_crash k.x ch
    have h2 := ih (restP k.x ch)
    rw [crK, usedK, usedK]
    dsimp only
    omega
theorem roomP_cut (x : Fi) (n : Int) (h : cutE x n = 0) : roomP (cutP x n) = roomP x := by
  unfold cutE at h
  unfold cutP
  split
  · rfl
  · show peakP x.b.length (x.l ++ [⟨n, true, []⟩]) = _
    unfold peakP
    rw [List.foldl_append]
    show peakOne _ _ = _
    unfold peakOne
    rw [if_neg (fun h => by cases h.2.1)]
    rfl
theorem roomP_sync (x : Fi) : roomP (syncP x) ≤ roomP x := allP_peak x.l x.b

/-! ### numbers of a folder -/
theorem idsP_rises (F : Fd) : irises (idsP F) := (idsN_both F _).1
theorem ids_more (F : Fd) (c : Cg) (i : Int) : i ∈ idsP ⟨F.l, F.p ++ [c]⟩ ↔ i ∈ idsP F ∨ (c.k = 1 ∧ c.id = i) := by
  rw [mem_idsP', mem_idsP']
  constructor
  · rintro (h | ⟨c', hc, h⟩)
    · exact Or.inl (Or.inl h)
    · rcases List.mem_append.1 hc with hc | hc
      · exact Or.inl (Or.inr ⟨c', hc, h⟩)
      · obtain rfl := List.mem_singleton.1 hc; exact Or.inr h
  · rintro ((h | ⟨c', hc, h⟩) | h)
    · exact Or.inl h
    · exact Or.inr ⟨c', List.mem_append_left _ hc, h⟩
    · exact Or.inr ⟨c, List.mem_append_right _ (List.mem_singleton.2 rfl), h⟩
theorem ids_do (F : Fd) (c : Cg) (h : c.k ≠ 1) : idsP (doP diskP F c) = idsP F := by
  unfold doP
  split
  · refine irises_ext (idsP_rises _) (idsP_rises _) fun i => ?_
    rw [ids_more]
    exact ⟨fun h' => h'.elim id fun h' => absurd h'.1 h, Or.inl⟩
  · rfl
theorem ids_new (F : Fd) (c : Cg) (h : c.k = 1) (hn : ∀ i ∈ idsP F, i < c.id) : idsP ⟨F.l, F.p ++ [c]⟩ = idsP F ++ [c.id] := by
  refine irises_ext (idsP_rises _) ?_ fun i => ?_
  · refine List.pairwise_append.2 ⟨idsP_rises F, List.pairwise_singleton _ _, fun a ha b hb => ?_⟩
    obtain rfl := List.mem_singleton.1 hb
    exact hn a ha
  · rw [ids_more, List.mem_append, List.mem_singleton]
    exact ⟨fun h' => h'.elim Or.inl fun h' => Or.inr h'.2.symm, fun h' => h'.elim Or.inl fun h' => Or.inr ⟨h, h'.symm⟩⟩
theorem ids_crash (F : Fd) (n : Nat) : ∀ i ∈ idsP (crashQ F n), i ∈ idsP F := by
  intro i hi
  rw [mem_idsP'] at hi
  rcases hi with ⟨s, hs⟩ | ⟨c, hc, _⟩
  · have hm : (⟨s, i⟩ : Nd) ∈ behP F n := (find_mem (beh_both F n).1 s i).1 hs
    exact behP_ids F n _ hm
  · cases hc
theorem ids_sync (F : Fd) : ∀ i ∈ idsP (syncQ F), i ∈ idsP F := ids_crash F _
theorem find_ids {F : Fd} {s : ByteArray} {i : Int} (h : findP (nowQ F) s = some i) : i ∈ idsP F :=
  behP_ids F F.p.length _ ((find_mem (beh_both F F.p.length).1 s i).1 h)

theorem find_in_ids {l : List Nd} {s : ByteArray} {i : Int} (h : findP l s = some i) : i ∈ l.map Nd.id := by
  induction l with
  | nil => cases h
  | cons x l ih =>
    rw [findP] at h
    split at h
    · obtain rfl := Option.some.inj h; exact List.mem_cons_self
    · exact List.mem_cons_of_mem _ (ih h)

/-! ### what is fit -/
structure Dk.Ok (m : Nat) (d : Dk) : Prop where
  l : ∀ x ∈ d.F.l, x.ok
  p : ∀ c ∈ d.F.p, c.ok
  len : d.F.l.length + d.F.p.length ≤ m
  rise : rises d.F.l
  ids : idK d.K = idsP d.F
  low : ∀ i ∈ idsP d.F, 1 ≤ i ∧ i ≤ d.last
  last0 : 0 ≤ d.last
  last : d.last ≤ m
  calls0 : 0 ≤ d.calls
  calls : d.calls ≤ m
  x : ∀ k ∈ d.K, k.x.b.length ≤ 1048576 ∧ k.x.l.length ≤ m ∧ ∀ c ∈ k.x.l, c.dat.length ≤ 2097152
  lb : InI d.lb
  lf : InI d.lf
  fuse : InI d.fuse
structure Cl.Ok (c : Cl) : Prop where
  k : InI c.k
  s : c.s.size ≤ 1048576
  t : c.t.size ≤ 1048576
  dat : c.dat.length ≤ 1048576
  n : InI c.n

theorem Dk.Ok.mono {m m' : Nat} {d : Dk} (h : d.Ok m) (hm : m ≤ m') : d.Ok m' :=
  { h with len := Nat.le_trans h.len hm, last := by have := h.last; omega, calls := by have := h.calls; omega, x := fun k hk => ⟨(h.x k hk).1, Nat.le_trans (h.x k hk).2.1 hm, (h.x k hk).2.2⟩ }
theorem Dk.Ok.fd {m : Nat} {d : Dk} (h : d.Ok m) (hm : m ≤ 1048575) : d.F.ok := ⟨h.l, h.p, by have := h.len; omega⟩
theorem Dk.Ok.rises {m : Nat} {d : Dk} (h : d.Ok m) : irises (idK d.K) := by rw [h.ids]; exact idsP_rises _
theorem Dk.Ok.at' {m : Nat} {d : Dk} (h : d.Ok m) (i : Int) : (atK d.K i).b.length ≤ 1048576 ∧ (atK d.K i).l.length ≤ m ∧ ∀ c ∈ (atK d.K i).l, c.dat.length ≤ 2097152 := by
  by_cases hi : i ∈ idK d.K
  · exact h.x _ (atK_mem hi)
  · unfold atK
    rw [getK_none hi]
    exact ⟨by simp [fi0], by simp [fi0], fun c hc => by simp [fi0] at hc⟩
theorem Dk.Ok.fi {m : Nat} {d : Dk} (h : d.Ok m) (hm : m ≤ 1048575) (i : Int) : (atK d.K i).ok := by
  obtain ⟨h1, h2, h3⟩ := h.at' i
  exact ⟨by omega, by omega, h3⟩
theorem Dk.Ok.klen {m : Nat} {d : Dk} (h : d.Ok m) : (d.K.length : Int) ≤ m := by
  have e : d.K.length = (idK d.K).length := by simp [idK]
  rw [e, h.ids]
  have : (idsP d.F).length ≤ d.last.toNat := by
    have hr := idsP_rises d.F
    have hl := h.low
    generalize idsP d.F = l at *
    have key : ∀ (l : List Int) (a : Int), irises l → (∀ i ∈ l, a < i ∧ i ≤ d.last) → (l.length : Int) ≤ max 0 (d.last - a) := by
      intro l
      induction l with
      | nil => intro a _ _; simp; omega
      | cons i l ih =>
        intro a hr hi
        obtain ⟨h1, h2⟩ := List.pairwise_cons.1 hr
        have := ih i h2 fun j hj => ⟨h1 j hj, (hi j (List.mem_cons_of_mem _ hj)).2⟩
        have := hi i List.mem_cons_self
        rw [List.length_cons]
        omega
    have := key l 0 hr fun i hi => ⟨by have := (hl i hi).1; omega, (hl i hi).2⟩
    have := h.last0
    omega
  have := h.last
  have := h.last0
  omega
theorem Dk.Ok.used {m : Nat} {d : Dk} (h : d.Ok m) (hm : m ≤ 1048575) : 0 ≤ usedK d.K ∧ usedK d.K ≤ 1099511627776 := by
  have h1 := usedK_pos d.K
  have h2 := usedK_le (K := d.K) fun k hk => (h.x k hk).1
  have h3 := h.klen
  omega

theorem tick_ok {m : Nat} {d : Dk} (h : d.Ok m) : (tickP d).Ok (m + 1) := by
  have h1 := h.mono (Nat.le_succ m)
  refine { h1 with calls0 := ?_, calls := ?_, fuse := ?_ }
  · show 0 ≤ d.calls + 1; have := h.calls0; omega
  · show d.calls + 1 ≤ _; have := h.calls; omega
  · show InI (if 0 < d.fuse then d.fuse - 1 else d.fuse)
    have := h.fuse
    unfold InI at *
    split <;> omega
theorem off_ok {m : Nat} {d : Dk} (h : d.Ok m) : (offP d).Ok m := { h with }
theorem chg_ok {k i : Int} {a b : ByteArray} (hk : 0 ≤ k ∧ k ≤ 3) (ha : a.size ≤ 1048576) (hb : b.size ≤ 1048576) (hi : InI i) : (⟨k, a, b, i⟩ : Cg).ok := ⟨by unfold InI; dsimp only; omega, ha, hb, hi⟩
theorem create_ok {m : Nat} {d : Dk} (h : d.Ok m) (hm : m ≤ 1048575) {s : ByteArray} (hs : s.size ≤ 1048576) : (createP d s).1.Ok (m + 1) := by
  unfold createP
  split
  · exact h.mono (Nat.le_succ m)
  · split
    · rename_i he
      have hF : doP diskP d.F ⟨1, s, ⟨#[]⟩, d.last + 1⟩ = ⟨d.F.l, d.F.p ++ [⟨1, s, ⟨#[]⟩, d.last + 1⟩]⟩ := by unfold doP; rw [if_pos he]
      have hids := ids_new d.F ⟨1, s, ⟨#[]⟩, d.last + 1⟩ rfl (fun i hi => by have := h.low i hi; show i < d.last + 1; omega)
      have hl := h.last
      have hl0 := h.last0
      have h1 := h.mono (Nat.le_succ m)
      refine { h1 with p := ?_, len := ?_, ids := ?_, low := ?_, last0 := ?_, last := ?_, x := ?_, l := ?_, rise := ?_ }
      · dsimp only; rw [hF]; exact h.l
      · dsimp only; rw [hF]
        intro c hc
        rcases List.mem_append.1 hc with hc | hc
        · exact h.p c hc
        · obtain rfl := List.mem_singleton.1 hc
          exact chg_ok (by omega) hs (by decide) (by unfold InI; omega)
      · dsimp only; rw [hF]
        have := h.len
        simp only [List.length_append, List.length_singleton]; omega
      · dsimp only; rw [hF]; exact h.rise
      · dsimp only; rw [hF, hids, idK_append, h.ids]; rfl
      · dsimp only; rw [hF, hids]
        intro i hi
        rcases List.mem_append.1 hi with hi | hi
        · have := h.low i hi; omega
        · obtain rfl := List.mem_singleton.1 hi; show 1 ≤ d.last + 1 ∧ d.last + 1 ≤ d.last + 1; omega
      · dsimp only; omega
      · dsimp only; omega
      · dsimp only
        intro k hk
        rcases List.mem_append.1 hk with hk | hk
        · exact h1.x k hk
        · obtain rfl := List.mem_singleton.1 hk
          exact ⟨by simp [fi0], by simp [fi0], fun c hc => by simp [fi0] at hc⟩
    · exact h.mono (Nat.le_succ m)
theorem ren_ok {m : Nat} {d : Dk} (h : d.Ok m) {c : Cg} (hc : c.ok) (hk : c.k ≠ 1) : (renP d c).1.Ok (m + 1) := by
  have h1 := h.mono (Nat.le_succ m)
  have hids := ids_do d.F c hk
  unfold renP
  refine { h1 with p := ?_, len := ?_, ids := ?_, low := ?_, l := ?_, rise := ?_ }
  · dsimp only; unfold doP; split <;> exact h.l
  · dsimp only; unfold doP; split
    · intro c' hc'
      rcases List.mem_append.1 hc' with hc' | hc'
      · exact h.p c' hc'
      · obtain rfl := List.mem_singleton.1 hc'; exact hc
    · exact h.p
  · dsimp only; unfold doP; split
    · have := h.len
      simp only [List.length_append, List.length_singleton]; omega
    · have := h.len; omega
  · dsimp only; unfold doP; split <;> exact h.rise
  · dsimp only; rw [hids]; exact h.ids
  · dsimp only; rw [hids]; exact h.low
theorem crashQ_names {F : Fd} (hl : ∀ x ∈ F.l, x.ok) (hp : ∀ c ∈ F.p, c.ok) (n : Nat) : ∀ x ∈ behP F n, x.ok :=
  ok_of_find (beh_both F n).1 (by rw [(beh_both F n).2]; exact okF_fold (fun c hc => hp c (List.mem_of_mem_take hc)) (okF_find hl))
/-- names that are left, and their files, each as it was or as a crash leaves it -/
theorem settle_ok {m : Nat} {d : Dk} (h : d.Ok m) (n : Nat) {K : List Kt} (hi : idK K = idK d.K) (hx : ∀ k ∈ K, k.x.b.length ≤ 1048576 ∧ k.x.l.length ≤ m ∧ ∀ c ∈ k.x.l, c.dat.length ≤ 2097152) (f : Int) (hf : InI f) (o : Bool) :
    ({ d with F := crashQ d.F n, K := tidyK K (idsP (crashQ d.F n)), fuse := f, off := o } : Dk).Ok m := by
  have hids := ids_crash d.F n
  refine { h with p := ?_, len := ?_, ids := ?_, low := ?_, l := ?_, rise := ?_, x := ?_, fuse := hf }
  · exact crashQ_names h.l h.p n
  · exact fun c hc => by cases hc
  · show (behP d.F n).length + 0 ≤ m
    have := behP_length d.F n
    have := h.len
    omega
  · exact (beh_both _ _).1
  · exact idK_tidy _ _
  · exact fun i hi => h.low i (hids i hi)
  · intro k hk
    obtain ⟨i, hil, rfl⟩ := List.mem_map.1 hk
    have : i ∈ idK K := by rw [hi, h.ids]; exact hids i hil
    exact hx _ (atK_mem this)
theorem syncDir_ok {m : Nat} {d : Dk} (h : d.Ok m) : (syncDirP d).1.Ok m := settle_ok h d.F.p.length rfl h.x d.fuse h.fuse d.off
theorem crash_ok {m : Nat} {d : Dk} (h : d.Ok m) (ch : List Int) : (crashD d ch).Ok m := by
  refine settle_ok h (ch.headD 0).toNat (idK_cr _ _) (fun k hk => ?_) (-1) (by unfold InI; omega) false
  obtain ⟨k', hk', c, rfl⟩ := mem_cr hk
  have h1 := (h.x k' hk').1
  have h2 := roomP_le h1
  have h3 : ((crashP k'.x c).b.length : Int) ≤ roomP k'.x := surP_peak _ _ _
  exact ⟨by dsimp only; omega, by simp [crashP], fun c hc => by simp [crashP] at hc⟩
theorem edit_ok {m : Nat} {d : Dk} (h : d.Ok m) (s : ByteArray) {g : Fi → Fi × Int}
    (hg : ∀ x : Fi, x.b.length ≤ 1048576 → x.l.length ≤ m → (∀ c ∈ x.l, c.dat.length ≤ 2097152) → (g x).1.b.length ≤ 1048576 ∧ (g x).1.l.length ≤ m + 1 ∧ ∀ c ∈ (g x).1.l, c.dat.length ≤ 2097152) : (editP d s g).1.Ok (m + 1) := by
  have h1 := h.mono (Nat.le_succ m)
  unfold editP
  split
  · exact h1
  · rename_i i hf
    split
    · refine { h1 with ids := ?_, x := ?_ }
      · dsimp only; rw [idK_set]; exact h.ids
      · dsimp only
        intro k hk
        rcases mem_set hk with hk | hk
        · exact h1.x k hk
        · rw [hk]
          have := h.at' i
          exact hg _ this.1 this.2.1 this.2.2
    · exact h1
theorem appX_ok (d : Dk) {b : List Int} (hb : b.length ≤ 2097152) {m : Nat} (x : Fi) (h1 : x.b.length ≤ 1048576) (h2 : x.l.length ≤ m) (h3 : ∀ c ∈ x.l, c.dat.length ≤ 2097152) :
    (appX d b x).1.b.length ≤ 1048576 ∧ (appX d b x).1.l.length ≤ m + 1 ∧ ∀ c ∈ (appX d b x).1.l, c.dat.length ≤ 2097152 := by
  show (appendP x b).b.length ≤ 1048576 ∧ (appendP x b).l.length ≤ m + 1 ∧ ∀ c ∈ (appendP x b).l, c.dat.length ≤ 2097152
  unfold appendP
  split
  · exact ⟨h1, by omega, h3⟩
  · split
    · exact ⟨h1, by omega, h3⟩
    · refine ⟨h1, by simp; omega, fun c hc => ?_⟩
      rcases List.mem_append.1 hc with hc | hc
      · exact h3 c hc
      · obtain rfl := List.mem_singleton.1 hc; exact hb
theorem cutX_ok (n : Int) {m : Nat} (x : Fi) (h1 : x.b.length ≤ 1048576) (h2 : x.l.length ≤ m) (h3 : ∀ c ∈ x.l, c.dat.length ≤ 2097152) :
    (cutX n x).1.b.length ≤ 1048576 ∧ (cutX n x).1.l.length ≤ m + 1 ∧ ∀ c ∈ (cutX n x).1.l, c.dat.length ≤ 2097152 := by
  show (cutP x n).b.length ≤ 1048576 ∧ (cutP x n).l.length ≤ m + 1 ∧ ∀ c ∈ (cutP x n).l, c.dat.length ≤ 2097152
  unfold cutP
  split
  · exact ⟨h1, by omega, h3⟩
  · refine ⟨h1, by simp; omega, fun c hc => ?_⟩
    rcases List.mem_append.1 hc with hc | hc
    · exact h3 c hc
    · obtain rfl := List.mem_singleton.1 hc; simp
theorem synX_ok {m : Nat} (x : Fi) (h1 : x.b.length ≤ 1048576) (h2 : x.l.length ≤ m) (h3 : ∀ c ∈ x.l, c.dat.length ≤ 2097152) :
    (synX x).1.b.length ≤ 1048576 ∧ (synX x).1.l.length ≤ m + 1 ∧ ∀ c ∈ (synX x).1.l, c.dat.length ≤ 2097152 :=
  ⟨nowP_le h1, by simp [synX, syncP], fun c hc => by simp [synX, syncP] at hc⟩
theorem eff_ok {m : Nat} {d : Dk} (h : d.Ok m) (hm : m ≤ 1048575) {c : Cl} (hc : c.Ok) : (effP d c).1.Ok (m + 1) := by
  have hI0 : InI 0 := by unfold InI; omega
  unfold effP
  split
  · exact create_ok h hm hc.s
  split
  · exact edit_ok h _ (appX_ok d (by have := hc.dat; omega))
  split
  · exact edit_ok h _ (cutX_ok c.n)
  split
  · exact edit_ok h _ synX_ok
  split
  · exact ren_ok h (chg_ok (by omega) hc.s hc.t hI0) (by show (2 : Int) ≠ 1; decide)
  split
  · exact ren_ok h (chg_ok (by omega) hc.s (by decide) hI0) (by show (3 : Int) ≠ 1; decide)
  · exact (syncDir_ok h).mono (Nat.le_succ m)
theorem step_ok {m : Nat} {d : Dk} (h : d.Ok m) (hm : m ≤ 1048574) {c : Cl} (hc : c.Ok) : (stepP d c).1.Ok (m + 2) := by
  have h2 := h.mono (Nat.le_add_right m 2)
  unfold stepP powP
  split
  · split
    · exact off_ok h2
    · exact eff_ok (tick_ok h) (by omega) hc
  split
  · refine { h2 with fuse := ?_ }
    show InI (normF c.n)
    have := hc.n
    unfold normF InI at *
    split <;> omega
  split
  · exact (crash_ok h _).mono (by omega)
  · exact h2
theorem new_ok {lb lf : Int} (h1 : InI lb) (h2 : InI lf) : (newD lb lf).Ok 0 where
  l := fun x hx => by cases hx
  p := fun x hx => by cases hx
  len := Nat.le_refl _
  rise := List.Pairwise.nil
  ids := rfl
  low := fun i hi => by
    rw [mem_idsP'] at hi
    rcases hi with ⟨s, hs⟩ | ⟨c, hc, _⟩
    · cases hs
    · cases hc
  last0 := Int.le_refl _
  last := Int.le_refl _
  calls0 := Int.le_refl _
  calls := Int.le_refl _
  x := fun k hk => by cases hk
  lb := h1
  lf := h2
  fuse := by unfold InI newD; dsimp only; omega
end Go.Proofs.YtncbgddgkpaoeaaGreat

namespace Go.Proofs.YtncbgddgkpaoeaaGreat
set_option linter.unusedVariables false
open Go.RowKit Go.Lib

theorem rapply_any (q : Option Addr) (l cp : Nat) (zs : List Int) (c : Ch) (p : Option Addr) (n cap : Nat) (M : Nat) (w : World) (hz : Bs w q l zs) (hq : q = none → cp = 0) (h : chIn w c p n cap) (hl : l ≤ 2097152) :
    Calls Tryz.prog 102 #[.slice q l cp, chV c p n cap, .int .i64 (M : Int)] w fun e w' => ∃ v, e = .returned v ∧ Ob w' w.heap.size 5 v (appP zs c M) ∧ Below w.heap.size w w' := by
  cases hr : rightP c
  · exact rapply_cut q l cp zs c p n cap (M : Int) w hz hq h hl (Or.inl hr)
  · cases hc : c.cut
    · exact rapply_put q l cp zs c p n cap M w hz hq h hl hr hc
    · exact rapply_cut q l cp zs c p n cap (M : Int) w hz hq h hl (Or.inr hc)

set_option maxRecDepth 100000 in
set_option maxHeartbeats 2000000 in
theorem rall_any (q : Option Addr) (l cp : Nat) (zs : List Int) (p : Option Addr) (n cap : Nat) (L : List Wd) (w : World) (hz : Bs w q l zs) (hq : q = none → cp = 0) (hl : l ≤ 2097152) (h : Ws w p n L) (hn : n ≤ 1048576) :
    Calls Tryz.prog 79 #[.slice q l cp, .slice p n cap] w fun e w' => ∃ v, e = .returned v ∧ Ob w' w.heap.size 5 v (allP zs (chs L)) ∧ Below w.heap.size w w' := by
  have H := Lib.hid h
  have HZ := Lib.hid hz
  have HQ := Lib.hid hq
  have HLL := Lib.hid h.1
  have HBD : Hid (∀ k, (allP zs ((chs L).take k)).length ≤ 2097152) := Lib.hid (fun k => allP_bound zs _ (by rw [hz.1]; exact hl))
  have HZL : Hid (([] : List Int).length + l ≤ 140737488355328) := Lib.hid (by simp; omega)
  have HO0 := Lib.hid (Ob.nil w w.heap.size 5)
  clear h hz hq
  go_enter Tryz.func79, Tryz.ntmps79
  go_wp2_with (refine wpList_append_bytes rfl (.const (.slice none 0 0)) (.tmp 7) 32 5 rfl Tryz.underlying32 info8 w.heap.size _ [] rfl HO0.out q l cp zs rfl HZ.out HQ.out HZL.out (Nat.le_refl _) ?_; intro v2 w2 hob2 hg2; rw [List.nil_append] at hob2; have HO2 := Lib.hid hob2; have HX2 := Lib.hid (below_new (Below.refl w.heap.size w) HO0.out hg2 (Nat.le_refl _)); clear hob2 hg2)
  go_loopw [5, 6] (fun v i wr => ∃ k : Nat, k ≤ n ∧ i = .int .i64 (k : Int) ∧ Hid (Ob wr w.heap.size 5 v (allP zs ((chs L).take k))) ∧ Hid (Below w.heap.size w wr)) (fun _ i _ => n - (intOf i).toNat)
  case atStart => exact ⟨0, by omega, rfl, by rw [List.take_zero]; exact HO2, HX2⟩
  case round =>
    clear HO2 HX2
    obtain ⟨k, hk, rfl, HO, HB⟩ := hrel
    by_cases hlt : k < n
    · obtain ⟨b, off, rfl, hcl⟩ := H.out.ptr k hlt
      have HF := Lib.hid (H.out.fit k)
      have HST := Lib.hid (allP_step zs L k (by rw [HLL.out]; exact hlt))
      have HDL := Lib.hid (H.out.fit k).1.1
      generalize L.getD k wd0 = x at *
      obtain ⟨xc, xp, xn, xcap⟩ := x
      have HK : Hid (∀ W, Below w.heap.size w W → W.cell? ⟨b, off + k * 3, none⟩ = some (.bool xc.cut) ∧ W.cell? ⟨b, off + k * 3 + 1, none⟩ = some (.int .i64 xc.off) ∧ W.cell? ⟨b, off + k * 3 + 2, none⟩ = some (.slice xp xn xcap)) := Lib.hid (fun W hW => by
        refine ⟨?_, ?_, ?_⟩
        · rw [hW.cell (World.block_lt_of_cell? w _ hcl.1)]; exact hcl.1
        · rw [hW.cell (World.block_lt_of_cell? w _ hcl.2.1)]; exact hcl.2.1
        · rw [hW.cell (World.block_lt_of_cell? w _ hcl.2.2)]; exact hcl.2.2)
      clear hcl
      have HB0 := Lib.hid (below_step HB.out ((Below.refl _ _).drew))
      have HO0 := Lib.hid (HO.out.later ((Below.refl _ _).drew))
      have k0 := HK.out _ HB0.out
      have k1 := HK.out _ HB.out
      obtain ⟨p3, c3, hv3, _, _, hbs3, hpc3⟩ := HO0.out.open
      subst hv3
      have HBS3 := Lib.hid hbs3
      have HPC3 := Lib.hid hpc3
      have hkn : (k : Int) < (n : Int) := by omega
      have hk0 : (0 : Int) ≤ (k : Int) := by omega
      clear hbs3 hpc3
      go_wp2
      go_region_held3 (fun W => W.cell? ⟨b, off + k * 3, none⟩ = some (.bool xc.cut) ∧ W.cell? ⟨b, off + k * 3 + 1, none⟩ = some (.int .i64 xc.off) ∧ W.cell? ⟨b, off + k * 3 + 2, none⟩ = some (.slice xp xn xcap)) (first | exact k0 | exact k1 | exact k2) (first
        | (go_at_call 102; refine (rapply_any p3 _ c3 _ xc xp xn xcap xn _ HBS3.out HPC3.out (HF.out.later HB0.out) (HBD.out k)).mono ?_; rintro e w2 ⟨v2, rfl, ho2, hb2⟩; rw [show xn = xc.dat.length from HDL.out.symm, ← HST.out] at ho2; have HO2 := Lib.hid (ho2.mono HB0.out.size); have HB2 := Lib.hid (below_step HB0.out hb2); have k2 := HK.out _ HB2.out; clear ho2 hb2))
      go_wp2
      refine ⟨?_, by simp [intOf]; omega⟩
      first
        | exact ⟨k + 1, by omega, by go_num, HO2, HB2⟩
        | ((repeat apply Exists.intro); refine ⟨?_, rfl⟩; exact ⟨k + 1, by omega, by go_num, HO2, HB2⟩)
    · obtain rfl : k = n := by omega
      have HT : Hid (chs L = (chs L).take k) := Lib.hid (by rw [List.take_of_length_le (by rw [chs_length, HLL.out]; exact Nat.le_refl _)])
      go_wp2
      go_ret
      exact ⟨_, rfl, by rw [HT.out]; exact HO.out, HB.out⟩
end Go.Proofs.YtncbgddgkpaoeaaGreat

namespace Go.Proofs.YtncbgddgkpaoeaaGreat
set_option linter.unusedVariables false
open Go.RowKit Go.Lib

set_option maxRecDepth 100000 in
set_option maxHeartbeats 2000000 in
theorem rsurvive_any (q : Option Addr) (l cp : Nat) (zs : List Int) (p : Option Addr) (n cap : Nat) (L : List Wd) (r : Option Addr) (m cm : Nat) (ch : List Int) (w : World) (hz : Bs w q l zs) (hq : q = none → cp = 0) (hl : l ≤ 2097152) (h : Ws w p n L) (hn : n ≤ 1048576) (hr : Bs w r m ch) (hm : m ≤ 2097152) :
    Calls Tryz.prog 101 #[.slice q l cp, .slice p n cap, .slice r m cm] w fun e w' => ∃ v, e = .returned v ∧ Ob w' w.heap.size 5 v (surP zs (chs L) ch) ∧ Below w.heap.size w w' := by
  have H := Lib.hid h
  have HR := Lib.hid hr
  have HZ := Lib.hid hz
  have HQ := Lib.hid hq
  have HLL := Lib.hid h.1
  have HCL := Lib.hid hr.1
  have HBD : Hid (∀ k, (surP zs ((chs L).take k) (ch.take k)).length ≤ 2097152) := Lib.hid (fun k => surP_bound zs _ _ (by rw [hz.1]; exact hl))
  have HT : Hid (∀ K, K = min n m → surP zs (chs L) ch = surP zs ((chs L).take K) (ch.take K)) := Lib.hid (fun K hK => surP_take _ _ _ _ (by rw [chs_length, h.1, hr.1, hK]))
  have HZL : Hid (([] : List Int).length + l ≤ 140737488355328) := Lib.hid (by simp; omega)
  have HO0 := Lib.hid (Ob.nil w w.heap.size 5)
  clear h hz hq hr
  go_enter Tryz.func101, Tryz.ntmps101
  go_wp2_with (refine wpList_append_bytes rfl (.const (.slice none 0 0)) (.tmp 10) 32 5 rfl Tryz.underlying32 info8 w.heap.size _ [] rfl HO0.out q l cp zs rfl HZ.out HQ.out HZL.out (Nat.le_refl _) ?_; intro v2 w2 hob2 hg2; rw [List.nil_append] at hob2; have HO2 := Lib.hid hob2; have HX2 := Lib.hid (below_new (Below.refl w.heap.size w) HO0.out hg2 (Nat.le_refl _)); clear hob2 hg2)
  go_loopw [7, 8] (fun v i wr => ∃ k : Nat, k ≤ n ∧ k ≤ m ∧ i = .int .i64 (k : Int) ∧ Hid (Ob wr w.heap.size 5 v (surP zs ((chs L).take k) (ch.take k))) ∧ Hid (Below w.heap.size w wr)) (fun _ i _ => n - (intOf i).toNat)
  case atStart => exact ⟨0, by omega, by omega, rfl, by rw [List.take_zero, List.take_zero, surP_none]; exact HO2, HX2⟩
  case round =>
    clear HO2 HX2
    obtain ⟨k, hk, hkm', rfl, HO, HB⟩ := hrel
    by_cases hlt : k < n
    · by_cases hlm : k < m
      · obtain ⟨b, off, rfl, hcl⟩ := H.out.ptr k hlt
        have hpp : ∃ b2 off2, r = some ⟨b2, off2, none⟩ ∧ ∀ j, j < m → w.cell? ⟨b2, off2 + j, none⟩ = some (.int .u8 (ch.getD j 0)) := by
          rcases HR.out.2.2 with h | h
          · omega
          · exact h
        obtain ⟨b2, off2, rfl, hcc⟩ := hpp
        have hx := hcc k hlm
        have hxb := HR.out.2.1 k
        have HF := Lib.hid (H.out.fit k)
        have HST := Lib.hid (surP_step zs L ch k (by rw [HLL.out]; exact hlt) (by rw [HCL.out]; exact hlm))
        have HDL := Lib.hid (H.out.fit k).1.1
        generalize L.getD k wd0 = xw at *
        obtain ⟨xc, xp, xn, xcap⟩ := xw
        generalize ch.getD k 0 = x at *
        have HK : Hid (∀ W, Below w.heap.size w W → (W.cell? ⟨b, off + k * 3, none⟩ = some (.bool xc.cut) ∧ W.cell? ⟨b, off + k * 3 + 1, none⟩ = some (.int .i64 xc.off) ∧ W.cell? ⟨b, off + k * 3 + 2, none⟩ = some (.slice xp xn xcap)) ∧ W.cell? ⟨b2, off2 + k, none⟩ = some (.int .u8 x)) := Lib.hid (fun W hW => by
          refine ⟨⟨?_, ?_, ?_⟩, ?_⟩
          · rw [hW.cell (World.block_lt_of_cell? w _ hcl.1)]; exact hcl.1
          · rw [hW.cell (World.block_lt_of_cell? w _ hcl.2.1)]; exact hcl.2.1
          · rw [hW.cell (World.block_lt_of_cell? w _ hcl.2.2)]; exact hcl.2.2
          · rw [hW.cell (World.block_lt_of_cell? w _ hx)]; exact hx)
        clear hcc hcl hx
        obtain ⟨⟨h0, h1, h2⟩, hx⟩ := HK.out _ HB.out
        obtain ⟨hx0, hx1⟩ := hxb
        obtain ⟨p3, c3, hv3, _, _, hbs3, hpc3⟩ := HO.out.open
        subst hv3
        have HBS3 := Lib.hid hbs3
        have HPC3 := Lib.hid hpc3
        have hkn : (k : Int) < (n : Int) := by omega
        have hkm : (k : Int) < (m : Int) := by omega
        have hk0 : (0 : Int) ≤ (k : Int) := by omega
        clear hbs3 hpc3
        by_cases hxz : x = 0
        · have HE : Hid (surP zs ((chs L).take (k + 1)) (ch.take (k + 1)) = surP zs ((chs L).take k) (ch.take k)) := Lib.hid (by rw [HST.out, if_neg (by omega)])
          have hz1 : decide (x > 0) = false := by simp; omega
          have hz2 : ((x : Int) == 255) = false := by simp; omega
          subst hxz
          rw [← HE.out] at HO
          go_wp2
          refine ⟨?_, by simp [intOf]; omega⟩
          first
            | exact ⟨k + 1, by omega, by omega, by go_num, by rw [HE.out] at HO ⊢; exact HO, HB⟩
            | ((repeat apply Exists.intro); refine ⟨?_, rfl⟩; exact ⟨k + 1, by omega, by omega, by go_num, by rw [HE.out] at HO ⊢; exact HO, HB⟩)
        · have hz1 : decide (x > 0) = true := by simp; omega
          by_cases hx255 : x = 255
          · have hz2 : ((x : Int) == 255) = true := by simp; omega
            have HE : Hid (surP zs ((chs L).take (k + 1)) (ch.take (k + 1)) = appP (surP zs ((chs L).take k) (ch.take k)) xc xn) := Lib.hid (by
              rw [HST.out, if_pos (by omega)]
              unfold mostP
              rw [if_pos hx255, HDL.out])
            go_wp2_with (go_at_call 102; refine (rapply_any p3 _ c3 _ xc xp xn xcap xn _ HBS3.out HPC3.out (HF.out.later HB.out) (HBD.out k)).mono ?_; rintro e w2 ⟨v2, rfl, ho2, hb2⟩; rw [← HE.out] at ho2; have HO2 := Lib.hid (ho2.mono HB.out.size); have HB2 := Lib.hid (below_step HB.out hb2); clear ho2 hb2)
            refine ⟨?_, by simp [intOf]; omega⟩
            first
              | exact ⟨k + 1, by omega, by omega, by go_num, HO2, HB2⟩
              | ((repeat apply Exists.intro); refine ⟨?_, rfl⟩; exact ⟨k + 1, by omega, by omega, by go_num, HO2, HB2⟩)
          · have hz2 : ((x : Int) == 255) = false := by simp; omega
            obtain ⟨X, rfl⟩ : ∃ X : Nat, x = (X : Int) := ⟨x.toNat, by omega⟩
            have HE : Hid (surP zs ((chs L).take (k + 1)) (ch.take (k + 1)) = appP (surP zs ((chs L).take k) (ch.take k)) xc X) := Lib.hid (by
              rw [HST.out, if_pos (by omega)]
              unfold mostP
              rw [if_neg hx255]
              rfl)
            go_wp2_with (go_at_call 102; refine (rapply_any p3 _ c3 _ xc xp xn xcap X _ HBS3.out HPC3.out (HF.out.later HB.out) (HBD.out k)).mono ?_; rintro e w2 ⟨v2, rfl, ho2, hb2⟩; rw [← HE.out] at ho2; have HO2 := Lib.hid (ho2.mono HB.out.size); have HB2 := Lib.hid (below_step HB.out hb2); clear ho2 hb2)
            refine ⟨?_, by simp [intOf]; omega⟩
            first
              | exact ⟨k + 1, by omega, by omega, by go_num, HO2, HB2⟩
              | ((repeat apply Exists.intro); refine ⟨?_, rfl⟩; exact ⟨k + 1, by omega, by omega, by go_num, HO2, HB2⟩)
      · obtain rfl : k = m := by omega
        have HE := Lib.hid (HT.out k (by omega))
        go_wp2
        go_ret
        exact ⟨_, rfl, by rw [HE.out]; exact HO.out, HB.out⟩
    · obtain rfl : k = n := by omega
      have HE := Lib.hid (HT.out k (by omega))
      go_wp2
      go_ret
      exact ⟨_, rfl, by rw [HE.out]; exact HO.out, HB.out⟩
end Go.Proofs.YtncbgddgkpaoeaaGreat

namespace Go.Proofs.YtncbgddgkpaoeaaGreat
set_option linter.unusedVariables false
open Go.RowKit Go.Lib

set_option maxRecDepth 100000 in
set_option maxHeartbeats 1000000 in
theorem rpeak_any (N : Int) (p : Option Addr) (n cap : Nat) (L : List Wd) (w : World) (h : Ws w p n L) (hn : n ≤ 1048576) :
    Calls Tryz.prog 99 #[.int .i64 N, .slice p n cap] w fun e w' => e = .returned (.int .i64 (peakP N (chs L))) ∧ Below w.heap.size w w' := by
  have H := Lib.hid h
  have HLL := Lib.hid h.1
  clear h
  go_enter Tryz.func99, Tryz.ntmps99
  go_wp2
  go_loopw [0, 5] (fun a i wr => ∃ (k : Nat) (m : Int), k ≤ n ∧ i = .int .i64 (k : Int) ∧ a = .int .i64 m ∧ Hid (peakP N ((chs L).take k) = m) ∧ Hid (Below w.heap.size w wr)) (fun _ i _ => n - (intOf i).toNat)
  case atStart => exact ⟨0, N, by omega, rfl, rfl, Lib.hid (by rw [List.take_zero]; rfl), Lib.hid (Below.refl _ _)⟩
  case round =>
    obtain ⟨k, m, hk, rfl, rfl, HM, HB⟩ := hrel
    by_cases hlt : k < n
    · obtain ⟨b, off, rfl, h0, h1, h2⟩ := (H.out.later HB.out).ptr k hlt
      have HW := Lib.hid ((H.out.later HB.out).fit k)
      have HST := Lib.hid (peakP_step N L k (by rw [HLL.out]; exact hlt))
      rw [HM.out] at HST
      clear HM
      generalize L.getD k wd0 = x at *
      obtain ⟨xc, xp, xn, xcap⟩ := x
      have HC1 : Hid (Cw (wr.alloc (.cells #[.bool xc.cut, .int .i64 xc.off, .slice xp xn xcap] 137)) wr.heap.size xc xp xn xcap) := Lib.hid (heap_alloc_new _ _)
      have HX1 : Hid (Below wr.heap.size wr (wr.alloc (.cells #[.bool xc.cut, .int .i64 xc.off, .slice xp xn xcap] 137))) := Lib.hid ((Below.refl _ _).alloc (Nat.le_refl _) _)
      have HS1 : Hid (wr.heap.size + 1 ≤ (wr.alloc (.cells #[.bool xc.cut, .int .i64 xc.off, .slice xp xn xcap] 137)).heap.size) := Lib.hid (by simp)
      have HIN : Hid (chIn (wr.alloc (.cells #[.bool xc.cut, .int .i64 xc.off, .slice xp xn xcap] 137)) xc xp xn xcap) := Lib.hid (HW.out.later HX1.out)
      have HDL : Hid (xc.dat.length = xn) := Lib.hid HW.out.1.1
      have HRT : Hid (∀ W, chIn W xc xp xn xcap → Calls Tryz.prog 120 #[.agg #[.bool xc.cut, .int .i64 xc.off, .slice xp xn xcap]] W fun e w' => e = .returned (.bool (rightP xc)) ∧ W.alloc (.cells #[.bool xc.cut, .int .i64 xc.off, .slice xp xn xcap] 137) = w') := Lib.hid fun W hW => rwright_any xc xp xn xcap W hW
      have HRR : Hid (rightP xc = true → ∃ o : Nat, xc.off = (o : Int) ∧ o + xn ≤ 1048576) := Lib.hid (fun hr => by
        unfold rightP at hr
        obtain ⟨o0, o1⟩ := of_decide_eq_true hr
        rw [HDL.out] at o1
        exact ⟨xc.off.toNat, by omega, by omega⟩)
      go_wp2_with fail
      refine (HRT.out _ HIN.out).mono ?_
      rintro e w2 ⟨rfl, hw2⟩
      have HB2 : Hid (Below w.heap.size w w2) := Lib.hid (by rw [← hw2]; exact (HB.out.trans (HX1.out.mono HB.out.size)).alloc (Nat.le_trans HB.out.size HX1.out.size) _)
      have HC2 : Hid (Cw w2 wr.heap.size xc xp xn xcap) := Lib.hid (HC1.out.keep (by rw [← hw2]; exact (Below.refl _ _).alloc HS1.out _))
      clear hw2 h0 h1 h2 HC1 HX1 HS1 HIN
      obtain ⟨h0, h1, h2⟩ := HC2.out.cells
      have HRD : Hid (∀ m' : Int, peakOne m xc = m' → Hid (peakP N ((chs L).take (k + 1)) = m')) := Lib.hid (fun m' e => Lib.hid (HST.out.trans e))
      cases hr : rightP xc
      · have HE := HRD.out _ (peakOne_wrong hr)
        clear hr
        go_wp2
        refine ⟨?_, by simp [intOf]; omega⟩
        first
          | exact ⟨k + 1, m, by omega, by go_num, rfl, HE, HB2⟩
          | ((repeat apply Exists.intro); refine ⟨?_, rfl⟩; exact ⟨k + 1, m, by omega, by go_num, rfl, HE, HB2⟩)
      · obtain ⟨o, ho, hon⟩ := HRR.out hr
        rw [ho] at h1
        cases hcut : xc.cut
        · rw [hcut] at h0
          by_cases hn0 : xn = 0
          · have HE := HRD.out _ (peakOne_none (HDL.out.trans hn0))
            have hn0' : decide ((xn : Int) > 0) = false := by simp; omega
            clear hr ho hcut
            go_wp2
            refine ⟨?_, by simp [intOf]; omega⟩
            first
              | exact ⟨k + 1, m, by omega, by go_num, rfl, HE, HB2⟩
              | ((repeat apply Exists.intro); refine ⟨?_, rfl⟩; exact ⟨k + 1, m, by omega, by go_num, rfl, HE, HB2⟩)
          · have HMX := Lib.hid (peakOne_max (m := m) hr hcut ho HDL.out (by omega))
            have hn0' : decide ((xn : Int) > 0) = true := by simp; omega
            clear hr ho hcut
            by_cases hgt : (o : Int) + (xn : Int) > m
            · have HE : Hid (peakP N ((chs L).take (k + 1)) = (o : Int) + (xn : Int)) := HRD.out _ (HMX.out.trans (by omega))
              have hgt' : decide ((o : Int) + (xn : Int) > m) = true := by simp; omega
              clear HMX
              go_wp2
              refine ⟨?_, by simp [intOf]; omega⟩
              first
                | exact ⟨k + 1, _, by omega, by go_num, rfl, HE, HB2⟩
                | ((repeat apply Exists.intro); refine ⟨?_, rfl⟩; exact ⟨k + 1, _, by omega, by go_num, rfl, HE, HB2⟩)
            · have HE : Hid (peakP N ((chs L).take (k + 1)) = m) := HRD.out _ (HMX.out.trans (by omega))
              have hgt' : decide ((o : Int) + (xn : Int) > m) = false := by simp; omega
              clear HMX
              go_wp2
              refine ⟨?_, by simp [intOf]; omega⟩
              first
                | exact ⟨k + 1, m, by omega, by go_num, rfl, HE, HB2⟩
                | ((repeat apply Exists.intro); refine ⟨?_, rfl⟩; exact ⟨k + 1, m, by omega, by go_num, rfl, HE, HB2⟩)
        · have HE := HRD.out _ (peakOne_cut hcut)
          rw [hcut] at h0
          clear hr ho hcut
          go_wp2
          refine ⟨?_, by simp [intOf]; omega⟩
          first
            | exact ⟨k + 1, m, by omega, by go_num, rfl, HE, HB2⟩
            | ((repeat apply Exists.intro); refine ⟨?_, rfl⟩; exact ⟨k + 1, m, by omega, by go_num, rfl, HE, HB2⟩)
    · obtain rfl : k = n := by omega
      have HT : Hid (peakP N (chs L) = m) := Lib.hid (by rw [← HM.out, List.take_of_length_le (by rw [chs_length, HLL.out]; exact Nat.le_refl _)])
      go_wp2
      go_ret
      exact ⟨by rw [HT.out]; rfl, HB.out⟩
end Go.Proofs.YtncbgddgkpaoeaaGreat
