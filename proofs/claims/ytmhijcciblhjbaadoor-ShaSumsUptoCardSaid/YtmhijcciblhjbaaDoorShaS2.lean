/- The reference's slow sums: products of numbers of four digits. -/
import Derived.Test.YtmhijcciblhjbaaDoorShaS1
import Derived.Test.YtmhijcciblhjbaaDoorNumR
namespace Go.Proofs.YtmhijcciblhjbaaDoor
set_option linter.unusedVariables false
open Go.RowKit Go.Lib

def tby (lo hi j : Nat) : Nat := if j = 0 then lo else if j = 1 then hi else 0
def tx (a out : List Nat) (lo hi i j c : Nat) : Nat := (((out.getD (i + j) 0 + (a.getD i 0 * tby lo hi j) % 18446744073709551616) % 18446744073709551616) + c) % 18446744073709551616
def tIn (a : List Nat) (lo hi i : Nat) (out : List Nat) : Nat → List Nat × Nat
  | 0 => (out, 0)
  | j + 1 => ((tIn a lo hi i out j).1.set (i + j) (tx a (tIn a lo hi i out j).1 lo hi i j (tIn a lo hi i out j).2 % 4294967296), tx a (tIn a lo hi i out j).1 lo hi i j (tIn a lo hi i out j).2 / 4294967296)
def tOut (a : List Nat) (lo hi : Nat) : Nat → List Nat
  | 0 => [0, 0, 0, 0]
  | i + 1 => (tIn a lo hi i (tOut a lo hi i) (4 - i)).1
def timesN (a : List Nat) (n : Nat) : List Nat := tOut a (n % 4294967296) (n / 4294967296) 4
theorem tIn_length (a : List Nat) (lo hi i : Nat) (out : List Nat) (j : Nat) : (tIn a lo hi i out j).1.length = out.length := by
  induction j with
  | zero => rfl
  | succ j ih => simp [tIn, ih]
theorem tOut_length (a : List Nat) (lo hi i : Nat) : (tOut a lo hi i).length = 4 := by
  induction i with
  | zero => rfl
  | succ i ih => simp [tOut, tIn_length, ih]
theorem size4 : (Tryd.prog.info? 53).map (·.size) = some 4 := by kernel_rfl

set_option maxRecDepth 100000 in
theorem times_any (al : List Nat) (n : Nat) (w : World) (hl : al.length = 4) : Calls Tryd.prog 23 #[.agg (rcs .u64 al), .int .u64 (n : Int)] w fun e w' => e = .returned (.agg (rcs .u64 (timesN al n))) ∧ Below w.heap.size w w' := by
  go_enter Tryd.func23, Tryd.ntmps23
  have HAL := Lib.hid hl
  go_wp2
  obtain ⟨lo, hlo⟩ : ∃ lo, n % 4294967296 = lo := ⟨_, rfl⟩
  obtain ⟨hi, hhi⟩ : ∃ hi, n / 4294967296 = hi := ⟨_, rfl⟩
  have e1 : (n : Int) % 4294967296 = (lo : Int) := by omega
  have e2 : (n : Int) / 4294967296 = (hi : Int) := by omega
  have HT : Hid (timesN al n = tOut al lo hi 4) := Lib.hid (by unfold timesN; rw [hlo, hhi])
  rw [e1, e2]
  clear e1 e2 hlo hhi hl
  go_loopw [8] (fun v wr => ∃ i : Nat, i ≤ 4 ∧ v = .int .i64 (i : Int) ∧ Hid (Rw .u64 wr (w.heap.size + 1 + 1) 53 (tOut al lo hi i)) ∧ Hid (Rw .u64 wr (w.heap.size + 1) 53 [0, 0, 0, 0]) ∧ Hid (Rw .u64 wr w.heap.size 53 al) ∧ Hid (Below w.heap.size w wr)) (fun v _ => 4 - (intOf v).toNat)
  case atStart =>
    refine ⟨0, by omega, rfl, Lib.hid ?_, Lib.hid ?_, Lib.hid ?_, Lib.hid ?_⟩
    · have h := heap_alloc_new ((w.alloc (.cells (rcs .u64 al) 53)).alloc (.cells (rcs .u64 [0, 0, 0, 0]) 53)) (.cells (rcs .u64 [0, 0, 0, 0]) 53)
      rw [show ((w.alloc (.cells (rcs .u64 al) 53)).alloc (.cells (rcs .u64 [0, 0, 0, 0]) 53)).heap.size = w.heap.size + 1 + 1 by simp] at h
      exact h
    · have h := heap_alloc_new (w.alloc (.cells (rcs .u64 al) 53)) (.cells (rcs .u64 [0, 0, 0, 0]) 53)
      refine Rw.later (w := (w.alloc (.cells (rcs .u64 al) 53)).alloc (.cells (rcs .u64 [0, 0, 0, 0]) 53)) (by rw [show (w.alloc (.cells (rcs .u64 al) 53)).heap.size = w.heap.size + 1 by simp] at h; exact h) ((Below.refl _ _).alloc (Nat.le_refl _) _)
    · have h := heap_alloc_new w (.cells (rcs .u64 al) 53)
      exact Rw.later (w := w.alloc (.cells (rcs .u64 al) 53)) h (((Below.refl _ _).alloc (Nat.le_refl _) _).alloc (by simp) _)
    · exact (((Below.refl _ _).alloc (Nat.le_refl _) _).alloc (by simp) _).alloc (by simp; omega) _
  case round =>
    obtain ⟨i, hile, rfl, hout, hres, ha, hbl⟩ := hrel
    have HOL : Hid ((tOut al lo hi i).length = 4) := Lib.hid (tOut_length _ _ _ _)
    by_cases hlt : i < 4
    · have HS : Hid (tOut al lo hi (i + 1) = (tIn al lo hi i (tOut al lo hi i) (4 - i)).1) := Lib.hid rfl
      generalize tOut al lo hi i = out0 at *
      go_wp2
      go_loopw [9, 10] (fun c j wr => ∃ jn cn : Nat, jn + i ≤ 4 ∧ j = .int .i64 (jn : Int) ∧ c = .int .u64 (cn : Int) ∧ Hid (cn = (tIn al lo hi i out0 jn).2) ∧ Hid (Rw .u64 wr (w.heap.size + 1 + 1) 53 (tIn al lo hi i out0 jn).1) ∧ Hid (Rw .u64 wr (w.heap.size + 1) 53 [0, 0, 0, 0]) ∧ Hid (Rw .u64 wr w.heap.size 53 al) ∧ Hid (Below w.heap.size w wr)) (fun _ j _ => 4 - (intOf j).toNat)
      case atStart => exact ⟨0, 0, by omega, rfl, rfl, Lib.hid rfl, hout, hres, ha, hbl⟩
      case round =>
        clear hout hres ha hbl
        obtain ⟨j, c, hji, rfl, rfl, hc, hout, hres, ha, hbl⟩ := hrel
        by_cases hlt2 : i + j < 4
        · obtain ⟨q, hq⟩ : ∃ q, i + j = q := ⟨_, rfl⟩
          have hqi : (i : Int) + (j : Int) = (q : Int) := by omega
          have hqw : IntKind.i64.wrap ((i : Int) + (j : Int)) = (q : Int) := by rw [IntKind.wrap_i64]; omega
          have hq4 : (q : Int) < 4 := by omega
          have hi4 : (i : Int) < 4 := by omega
          have HTL : Hid ((tIn al lo hi i out0 j).1.length = 4) := Lib.hid (by rw [tIn_length]; exact HOL.out)
          have co := hout.out.cell q (by rw [HTL.out]; omega)
          have fo := hout.out.frozen q
          have ca := ha.out.cell i (by rw [HAL.out]; omega)
          obtain ⟨O, hO⟩ : ∃ O, (tIn al lo hi i out0 j).1.getD q 0 = O := ⟨_, rfl⟩
          obtain ⟨A, hA⟩ : ∃ A, al.getD i 0 = A := ⟨_, rfl⟩
          rw [hO] at co
          rw [hA] at ca
          obtain ⟨X, hX⟩ : ∃ X, tx al (tIn al lo hi i out0 j).1 lo hi i j c = X := ⟨_, rfl⟩
          have HX : Hid (tx al (tIn al lo hi i out0 j).1 lo hi i j (tIn al lo hi i out0 j).2 = X) := Lib.hid (by rw [← hc.out]; exact hX)
          have hx : (((O + (A * tby lo hi j) % 18446744073709551616) % 18446744073709551616) + c) % 18446744073709551616 = X := by rw [← hX]; unfold tx; rw [hq, hO, hA]
          have HQ := Lib.hid hq
          clear hO hA hX hq
          obtain ⟨B, hB⟩ : ∃ B, tby lo hi j = B := ⟨_, rfl⟩
          rw [hB] at hx
          have hw : ((A * B : Nat) : Int) = (A : Int) * (B : Int) := Int.natCast_mul A B
          obtain ⟨P, hP⟩ : ∃ P, A * B = P := ⟨_, rfl⟩
          rw [hP] at hx hw
          have hy : IntKind.u64.wrap (IntKind.u64.wrap ((O : Int) + IntKind.u64.wrap ((A : Int) * (B : Int))) + (c : Int)) = (X : Int) := by
            rw [← hw, IntKind.wrap_u64, IntKind.wrap_u64, IntKind.wrap_u64]; omega
          have HB := Lib.hid hB
          obtain ⟨XL, hXL⟩ : ∃ XL, X % 4294967296 = XL := ⟨_, rfl⟩
          obtain ⟨XH, hXH⟩ : ∃ XH, X / 4294967296 = XH := ⟨_, rfl⟩
          have hxl : (X : Int) % 4294967296 = (XL : Int) := by omega
          have hxh : (X : Int) / 4294967296 = (XH : Int) := by omega
          have HN : Hid (tIn al lo hi i out0 (j + 1) = ((tIn al lo hi i out0 j).1.set q XL, XH)) := Lib.hid (by simp only [tIn]; rw [HX.out, HQ.out, hXL, hXH])
          clear hx hw hP hB hXL hXH
          have HQ4 := Lib.hid hq4
          rcases (by omega : j = 0 ∨ j = 1 ∨ 2 ≤ j) with h0 | h1 | h2
          · have t0 : ((j : Int) == 0) = true := by simp; omega
            have t1 : ((j : Int) == 1) = false := by simp; omega
            have hBe : B = lo := by rw [← HB.out, h0]; rfl
            subst hBe
            clear h0
            go_upto_region 15 with fail
            go_quiet (fail)
            have hq1 := Lib.hid (below_drewN (Below.refl wr.heap.size wr) nq)
            generalize wr.drewN nq = wd at *
            clear co fo ca nq
            have hout := Lib.hid (hout.out.later hq1.out)
            have hres := Lib.hid (hres.out.later hq1.out)
            have ha := Lib.hid (ha.out.later hq1.out)
            have hbl2 : Below w.heap.size w wd := hbl.out.trans (hq1.out.mono hbl.out.size)
            have hbl := Lib.hid hbl2
            clear hbl2
            have co := hout.out.cell q (by rw [HTL.out]; omega)
            have fo := hout.out.frozen q
            go_wp2
            have HS2 := Lib.hid (hout.out.set q XL)
            refine ⟨?_, by simp [intOf]; omega⟩
            exact ⟨j + 1, XH, by omega, by go_num, rfl, Lib.hid (by rw [HN.out]), Lib.hid (by rw [HN.out]; exact HS2.out), Lib.hid (hres.out.other _ _ (by show w.heap.size + 1 ≠ w.heap.size + 1 + 1; omega)), Lib.hid (ha.out.other _ _ (by show w.heap.size ≠ w.heap.size + 1 + 1; omega)), Lib.hid (hbl.out.setCell (p := ⟨w.heap.size + 1 + 1, q, none⟩) (by show w.heap.size ≤ w.heap.size + 1 + 1; omega) _)⟩
          · have t0 : ((j : Int) == 0) = false := by simp; omega
            have t1 : ((j : Int) == 1) = true := by simp; omega
            have hBe : B = hi := by rw [← HB.out, h1]; rfl
            subst hBe
            clear h1
            go_upto_region 15 with fail
            go_quiet (fail)
            have hq1 := Lib.hid (below_drewN (Below.refl wr.heap.size wr) nq)
            generalize wr.drewN nq = wd at *
            clear co fo ca nq
            have hout := Lib.hid (hout.out.later hq1.out)
            have hres := Lib.hid (hres.out.later hq1.out)
            have ha := Lib.hid (ha.out.later hq1.out)
            have hbl2 : Below w.heap.size w wd := hbl.out.trans (hq1.out.mono hbl.out.size)
            have hbl := Lib.hid hbl2
            clear hbl2
            have co := hout.out.cell q (by rw [HTL.out]; omega)
            have fo := hout.out.frozen q
            go_wp2
            have HS2 := Lib.hid (hout.out.set q XL)
            refine ⟨?_, by simp [intOf]; omega⟩
            exact ⟨j + 1, XH, by omega, by go_num, rfl, Lib.hid (by rw [HN.out]), Lib.hid (by rw [HN.out]; exact HS2.out), Lib.hid (hres.out.other _ _ (by show w.heap.size + 1 ≠ w.heap.size + 1 + 1; omega)), Lib.hid (ha.out.other _ _ (by show w.heap.size ≠ w.heap.size + 1 + 1; omega)), Lib.hid (hbl.out.setCell (p := ⟨w.heap.size + 1 + 1, q, none⟩) (by show w.heap.size ≤ w.heap.size + 1 + 1; omega) _)⟩
          · have t0 : ((j : Int) == 0) = false := by simp; omega
            have t1 : ((j : Int) == 1) = false := by simp; omega
            have hBe : B = 0 := by rw [← HB.out, tby, if_neg (by omega), if_neg (by omega)]
            subst hBe
            clear h2
            have hy2 : IntKind.u64.wrap (IntKind.u64.wrap ((O : Int) + IntKind.u64.wrap ((A : Int) * 0)) + (c : Int)) = (X : Int) := hy
            have hy3 : IntKind.u64.wrap (IntKind.u64.wrap ((O : Int) + 0) + (c : Int)) = (X : Int) := by rw [← hy]; simp [IntKind.wrap_u64]
            have hy4 : IntKind.u64.wrap (IntKind.u64.wrap (O : Int) + (c : Int)) = (X : Int) := by rw [← hy]; simp [IntKind.wrap_u64]
            go_upto_region 15 with fail
            go_quiet (fail)
            have hq1 := Lib.hid (below_drewN (Below.refl wr.heap.size wr) nq)
            generalize wr.drewN nq = wd at *
            clear co fo ca nq
            have hout := Lib.hid (hout.out.later hq1.out)
            have hres := Lib.hid (hres.out.later hq1.out)
            have ha := Lib.hid (ha.out.later hq1.out)
            have hbl2 : Below w.heap.size w wd := hbl.out.trans (hq1.out.mono hbl.out.size)
            have hbl := Lib.hid hbl2
            clear hbl2
            have co := hout.out.cell q (by rw [HTL.out]; omega)
            have fo := hout.out.frozen q
            go_wp2
            have HS2 := Lib.hid (hout.out.set q XL)
            refine ⟨?_, by simp [intOf]; omega⟩
            exact ⟨j + 1, XH, by omega, by go_num, rfl, Lib.hid (by rw [HN.out]), Lib.hid (by rw [HN.out]; exact HS2.out), Lib.hid (hres.out.other _ _ (by show w.heap.size + 1 ≠ w.heap.size + 1 + 1; omega)), Lib.hid (ha.out.other _ _ (by show w.heap.size ≠ w.heap.size + 1 + 1; omega)), Lib.hid (hbl.out.setCell (p := ⟨w.heap.size + 1 + 1, q, none⟩) (by show w.heap.size ≤ w.heap.size + 1 + 1; omega) _)⟩
        · have hj4 : j = 4 - i := by omega
          have HS3 : Hid (Rw .u64 wr (w.heap.size + 1 + 1) 53 (tOut al lo hi (i + 1))) := Lib.hid (by rw [HS.out, ← hj4]; exact hout.out)
          clear hj4
          go_wp2
          refine ⟨?_, by simp [intOf]; omega⟩
          exact ⟨i + 1, by omega, by go_num, HS3, hres, ha, hbl⟩
    · obtain rfl : i = 4 := by omega
      have HZ1 : Hid ((Tryd.prog.info? 53).map (·.size) = some (rcs .u64 (tOut al lo hi 4)).size) := Lib.hid (by rw [rcs_size, HOL.out]; exact size4)
      have HZ2 : Hid ((rcs .u64 [0, 0, 0, 0]).size = (rcs .u64 (tOut al lo hi 4)).size) := Lib.hid (by rw [rcs_size, rcs_size, HOL.out]; rfl)
      go_wp2_with (first
        | (refine wpList_load_row rfl 53 _ rfl (w.heap.size + 1 + 1) rfl 53 _ (0, 0) _ hout.out Tryd.underlying53 rfl HZ1.out ?_)
        | (refine wpList_store_row rfl 53 _ _ rfl (w.heap.size + 1) _ rfl rfl 53 _ hres.out HZ1.out HZ2.out (rcs_one _) ?_))
      rw [HT.out]
      refine bodyPost_ret (Rw.results hres.out.row rfl _ rfl _ Tryd.underlying53 rfl (by rw [HOL.out]; exact size4)) rfl ⟨rfl, below_setRowR hbl.out _ _ (by omega)⟩
end Go.Proofs.YtmhijcciblhjbaaDoor
