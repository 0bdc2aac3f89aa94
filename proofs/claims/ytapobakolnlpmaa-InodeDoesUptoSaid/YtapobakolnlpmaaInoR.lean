/- Layer 10: what all its laws share: a part of what was appended survives. -/
import Derived.Test.YtapobakolnlpmaaInoN
import Derived.Test.YtapobakolnlpmaaInoH
import Derived.Test.YtapobakolnlpmaaInoI
import Derived.Test.YtapobakolnlpmaaWriQ
import Derived.Test.YtapobakolnlpmaaSame
import Derived.Lib.SlBytesConst
namespace Go.Proofs.Ytapobakolnlpmaa
set_option linter.unusedVariables false
open Go.RowKit Go.Lib

theorem lit_byte {l : List Int} (h : l.all (fun z => decide (0 ≤ z) && decide (z < 256)) = true) : ∀ j, 0 ≤ l.getD j 0 ∧ l.getD j 0 < 256 := by
  intro j
  rw [List.getD_eq_getElem?_getD]
  by_cases hj : j < l.length
  · rw [List.getElem?_eq_getElem hj]
    have := List.all_eq_true.1 h _ (List.getElem_mem hj)
    simpa using this
  · rw [List.getElem?_eq_none (by omega)]
    simp
def fX : Fi := ⟨[97, 98], []⟩
def fY : Fi := ⟨[97, 98], [⟨2, false, [99, 100]⟩]⟩
def fZ : Fi := ⟨[97, 98, 99], []⟩
theorem fi_eq {a b : Fi} (h1 : a.b = b.b) (h2 : a.l = b.l) : a = b := by cases a; cases b; simp_all
theorem fY_eq : appendP fX [99, 100] = fY := rfl
theorem fY_err : appendE fX [99, 100] = 0 := rfl
theorem fZ_eq : crashP fY [1] = fZ := rfl
theorem fX_ok : fX.ok := ⟨by decide, by decide, by decide⟩
theorem fY_ok : fY.ok := ⟨by decide, by decide, by decide⟩
theorem fZ_ok : fZ.ok := ⟨by decide, by decide, by decide⟩

set_option maxRecDepth 100000 in
set_option maxHeartbeats 2000000 in
theorem ilives_any (w : World) : Calls Try.prog 17 #[] w fun e w' => e = .returned (.bool true) ∧ Below w.heap.size w w' := by
  have kc := fun (w : World) (C : Array Value) (n c : Nat) => Lib.run_convert_bytes_const (P := Try.prog) w 22 5 C n c Try.underlying22 Try.underlying5
  have kc2 : ∀ (w : World) (h : Nat) (C : Array Value) (n c : Nat), w.heap.size = h → (convert 22 22 (.slice (some ⟨h, 0, none⟩) n c)).run Try.prog (w.alloc (.cells C 5)) = .ok (.slice (some ⟨h, 0, none⟩) n c) (w.alloc (.cells C 5 (C.size, C.size + 1))) := fun w h C n c hh => by subst hh; exact kc w C n c
  clear kc
  have hbx := bs_lit_fr w 5 #[.int .u8 97, .int .u8 98] (2, 3) [97, 98] 2 rfl (lit_byte rfl) rfl
  obtain ⟨A0, hA0⟩ : ∃ A, w.alloc (.cells #[.int .u8 97, .int .u8 98] 5 (2, 3)) = A := ⟨_, rfl⟩
  have hs0 : A0.heap.size = w.heap.size + 1 := by rw [← hA0]; simp
  have hb0 : Below w.heap.size w A0 := by rw [← hA0]; exact below_alloc' (Below.refl _ _) _
  have hby := bs_lit_fr A0 5 #[.int .u8 99, .int .u8 100] (2, 3) [99, 100] 2 rfl (lit_byte rfl) rfl
  rw [hA0] at hbx
  rw [hs0] at hby
  obtain ⟨A1, hA1⟩ : ∃ A, A0.alloc (.cells #[.int .u8 99, .int .u8 100] 5 (2, 3)) = A := ⟨_, rfl⟩
  have hb1 : Below A0.heap.size A0 A1 := by rw [← hA1]; exact below_alloc' (Below.refl _ _) _
  rw [hA1] at hby
  have HBY := Lib.hid hby
  have HB1 := Lib.hid (below_step hb0 hb1)
  have HX : Hid (Ni.fit A1 ⟨some ⟨w.heap.size, 0, none⟩, 2, 2, none, 0, 0, [97, 98], []⟩) := Lib.hid ⟨hbx.later hb1, (fun h => by cases h), Nat.le_refl _, ⟨rfl, by simp, Or.inl rfl⟩, fun _ => rfl, Nat.le_refl _⟩
  have hap := iappend_any ⟨some ⟨w.heap.size, 0, none⟩, 2, 2, none, 0, 0, [97, 98], []⟩ (some ⟨w.heap.size + 1, 0, none⟩) 2 2 [99, 100] A1 HX.out fX_ok HBY.out (fun h => by cases h) (Nat.le_refl _) (by omega)
  rw [show appendE (Ni.fi ⟨some ⟨w.heap.size, 0, none⟩, 2, 2, none, 0, 0, [97, 98], []⟩) [99, 100] = 0 from rfl, show appendP (Ni.fi ⟨some ⟨w.heap.size, 0, none⟩, 2, 2, none, 0, 0, [97, 98], []⟩) [99, 100] = fY from rfl] at hap
  unfold Ni.v at hap
  dsimp only at hap
  have HAP := Lib.hid hap
  clear hap hbx hby hb0 hb1
  go_enter Try.func17, Try.ntmps17
  go_wp2_with fail
  clear hA0 hA1 hs0
  refine HAP.out.mono ?_
  rintro e2 w2 ⟨⟨yp, yn, yc, yq, ym, yd, yz, yL⟩, rfl, hf2, hy2, hb2⟩
  have hyf : Ni.fi ⟨yp, yn, yc, yq, ym, yd, yz, yL⟩ = fY := hy2
  have HYF := Lib.hid hyf
  have HB2 := Lib.hid (below_step HB1.out hb2)
  obtain ⟨G, hG⟩ : ∃ G, w2.heap.size = G := ⟨_, rfl⟩
  obtain ⟨w3, hw3⟩ : ∃ W, w2.alloc (.cells #[.slice yp yn yc, .slice yq ym yd] 25) = W := ⟨_, rfl⟩
  have HB3 : Hid (Below w.heap.size w w3) := Lib.hid (by rw [← hw3]; exact below_alloc' HB2.out _)
  have HF3 : Hid (Ni.fit w3 ⟨yp, yn, yc, yq, ym, yd, yz, yL⟩) := Lib.hid (by rw [← hw3]; exact hf2.later (below_alloc' (Below.refl _ _) _))
  have HI3 : Hid (Iw w3 G ⟨yp, yn, yc, yq, ym, yd, yz, yL⟩) := Lib.hid (by rw [← hw3, ← hG]; exact heap_alloc_new _ _)
  have hbz := bs_lit_fr w3 5 #[.int .u8 1] (0, 0) [1] 1 rfl (lit_byte rfl) rfl
  obtain ⟨w4, hw4⟩ : ∃ W, w3.alloc (.cells #[.int .u8 1] 5) = W := ⟨_, rfl⟩
  obtain ⟨S3, hS3⟩ : ∃ s, w3.heap.size = s := ⟨_, rfl⟩
  have hx4 : Below w3.heap.size w3 w4 := by rw [← hw4]; exact below_alloc' (Below.refl _ _) _
  rw [hS3] at hbz
  have HBZ : Hid (Bs w4 (some ⟨S3, 0, none⟩) 1 [1]) := Lib.hid (by rw [← hw4]; exact hbz)
  have HX4 := Lib.hid hx4
  have HCR := Lib.hid (icrash_any _ (some ⟨S3, 0, none⟩) 1 1 [1] w4 (HF3.out.later hx4) (by rw [hyf]; exact fY_ok) HBZ.out (fun h => by cases h) (Nat.le_refl _) (by omega))
  unfold Ni.v at HCR
  dsimp only at HCR
  obtain ⟨i0, i1⟩ := HI3.out.cells
  have HI4 := Lib.hid (HI3.out.later hx4)
  have HB4 := Lib.hid (below_step HB3.out hx4)
  have HF4 := Lib.hid (HF3.out.later hx4)
  clear hf2 hy2 hb2 HAP hyf hx4 hbz HB2 HX HBY HB1
  obtain ⟨j0, j1⟩ := HI4.out.cells
  go_wp2_with fail
  clear hw3 hG hw4 hS3
  refine HCR.out.mono ?_
  rintro e5 w5 ⟨⟨xp, xn, xc, xq, xm, xd, xz, xL⟩, v5, rfl, hf5, hy5, _, hb5⟩
  rw [HYF.out, fZ_eq] at hy5
  have HXF := Lib.hid hy5
  have HB5 := Lib.hid (below_step HB4.out hb5)
  obtain ⟨G6, hG6⟩ : ∃ G, w5.heap.size = G := ⟨_, rfl⟩
  obtain ⟨w6, hw6⟩ : ∃ W, w5.alloc (.cells #[.slice xp xn xc, .slice xq xm xd] 25) = W := ⟨_, rfl⟩
  have hx6 : Below w5.heap.size w5 w6 := by rw [← hw6]; exact below_alloc' (Below.refl _ _) _
  have HB6 := Lib.hid (below_step HB5.out hx6)
  have HX6 := Lib.hid (below_step hb5 hx6)
  have HFX6 := Lib.hid (hf5.later hx6)
  have HFY6 := Lib.hid (HF4.out.later HX6.out)
  have HIX6 : Hid (Iw w6 G6 ⟨xp, xn, xc, xq, xm, xd, xz, xL⟩) := Lib.hid (by rw [← hw6, ← hG6]; exact heap_alloc_new _ _)
  have HIY6 := Lib.hid (HI4.out.later HX6.out)
  clear hf5 hy5 hb5 hx6 j0 j1 i0 i1 HCR HB5 HB4 HB3 HX4 HBZ HF3 HF4 HI3 HI4
  obtain ⟨j0, j1⟩ := HIY6.out.cells
  have HNY := Lib.hid (inow_any _ w6 HFY6.out (by rw [HYF.out]; exact fY_ok))
  rw [HYF.out] at HNY
  unfold Ni.v at HNY
  dsimp only at HNY
  go_wp2_with fail
  clear hw6 hG6
  refine HNY.out.mono ?_
  rintro e7 w7 ⟨v7, rfl, ho7, hb7⟩
  rw [show nowP fY = [97, 98, 99, 100] from rfl] at ho7
  obtain ⟨p7, c7, hv7, _, _, hbs7, _⟩ := ho7.open
  subst hv7
  have HS7 : Hid (Bs w7 p7 4 [97, 98, 99, 100]) := Lib.hid hbs7
  have HB7 := Lib.hid (below_step HB6.out hb7)
  have HFX7 := Lib.hid (HFX6.out.later hb7)
  have HIX7 := Lib.hid (HIX6.out.later hb7)
  clear ho7 hb7 hbs7 j0 j1 HNY
  have HBT := Lib.hid (bs_lit_fr w7 5 #[.int .u8 97, .int .u8 98, .int .u8 99, .int .u8 100] (4, 5) [97, 98, 99, 100] 4 rfl (lit_byte rfl) rfl)
  go_wp2_with fail
  refine (same_any p7 (some ⟨w7.heap.size, 0, none⟩) 4 4 c7 4 [97, 98, 99, 100] [97, 98, 99, 100] _ (by unfold maxLen; omega) (by unfold maxLen; omega) (HS7.out.later (below_alloc' (Below.refl _ _) _)) HBT.out).mono ?_
  rintro e8 w8 ⟨rfl, nq, rfl⟩
  have HX8 := Lib.hid (below_drewN (below_alloc' (Below.refl w7.heap.size w7) (.cells #[.int .u8 97, .int .u8 98, .int .u8 99, .int .u8 100] 5 (4, 5))) nq)
  generalize (w7.alloc (.cells #[.int .u8 97, .int .u8 98, .int .u8 99, .int .u8 100] 5 (4, 5))).drewN nq = w8 at *
  rw [decide_eq_true (rfl : ([97, 98, 99, 100] : List Int) = [97, 98, 99, 100])]
  have HB8 := Lib.hid (below_step HB7.out HX8.out)
  have HFX8 := Lib.hid (HFX7.out.later HX8.out)
  obtain ⟨j0, j1⟩ := (HIX7.out.later HX8.out).cells
  have HNX := Lib.hid (inow_any _ w8 HFX8.out (by rw [HXF.out]; exact fZ_ok))
  rw [HXF.out] at HNX
  unfold Ni.v at HNX
  dsimp only at HNX
  clear HBT HS7
  go_wp2_with fail
  refine HNX.out.mono ?_
  rintro e9 w9 ⟨v9, rfl, ho9, hb9⟩
  rw [show nowP fZ = [97, 98, 99] from rfl] at ho9
  obtain ⟨p9, c9, hv9, _, _, hbs9, _⟩ := ho9.open
  subst hv9
  have HS9 : Hid (Bs w9 p9 3 [97, 98, 99]) := Lib.hid hbs9
  have HB9 := Lib.hid (below_step HB8.out hb9)
  clear ho9 hb9 hbs9 j0 j1 HNX
  have HBT := Lib.hid (bs_lit_fr w9 5 #[.int .u8 97, .int .u8 98, .int .u8 99] (3, 4) [97, 98, 99] 3 rfl (lit_byte rfl) rfl)
  go_wp2_with fail
  refine (same_any p9 (some ⟨w9.heap.size, 0, none⟩) 3 3 c9 3 [97, 98, 99] [97, 98, 99] _ (by unfold maxLen; omega) (by unfold maxLen; omega) (HS9.out.later (below_alloc' (Below.refl _ _) _)) HBT.out).mono ?_
  rintro e10 w10 ⟨rfl, nq2, rfl⟩
  have HB10 := Lib.hid (below_step HB9.out (below_drewN (below_alloc' (Below.refl w9.heap.size w9) (.cells #[.int .u8 97, .int .u8 98, .int .u8 99] 5 (3, 4))) nq2))
  generalize (w9.alloc (.cells #[.int .u8 97, .int .u8 98, .int .u8 99] 5 (3, 4))).drewN nq2 = w10 at *
  rw [decide_eq_true (rfl : ([97, 98, 99] : List Int) = [97, 98, 99])]
  go_wp2
  go_ret
  exact ⟨rfl, HB10.out⟩
end Go.Proofs.Ytapobakolnlpmaa
