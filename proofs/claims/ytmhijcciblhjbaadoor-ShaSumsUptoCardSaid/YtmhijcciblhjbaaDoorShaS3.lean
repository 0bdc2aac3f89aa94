/- The reference's slow sums: fractions of roots. -/
import Derived.Test.YtmhijcciblhjbaaDoorShaS2
namespace Go.Proofs.YtmhijcciblhjbaaDoor
set_option linter.unusedVariables false
open Go.RowKit Go.Lib

def z1 (y : Nat) : List Nat := timesN (timesN [1, 0, 0, 0] y) y
def zl (y : Nat) (third : Bool) : List Nat := if third then timesN (z1 y) y else z1 y
def topN (y : Nat) (third : Bool) : Nat := if third then (zl y third).getD 3 0 else ((zl y third).getD 2 0 + ((zl y third).getD 3 0 * 4294967296) % 18446744073709551616) % 18446744073709551616
def lowN (y : Nat) (third : Bool) : Bool := decide (0 < ((zl y third).getD 0 0 + (zl y third).getD 1 0) % 18446744073709551616) || (third && decide (0 < (zl y third).getD 2 0))
def takeN (p y : Nat) (third : Bool) : Bool := decide (topN y third < p) || (topN y third == p && !lowN y third)
def yN (x k : Nat) : Nat := (x + 2 ^ (39 - k)) % 18446744073709551616
def fx (p : Nat) (third : Bool) : Nat → Nat
  | 0 => 0
  | k + 1 => if takeN p (yN (fx p third k) k) third then yN (fx p third k) k else fx p third k
def fracN (p : Nat) (third : Bool) : Nat := fx p third 40 % 4294967296
theorem timesN_length (a : List Nat) (n : Nat) : (timesN a n).length = 4 := tOut_length _ _ _ _

set_option maxRecDepth 100000 in
set_option maxHeartbeats 2000000 in
theorem fraction_false (p : Nat) (w : World) : Calls Tryd.prog 19 #[.int .u64 (p : Int), .bool false] w fun e w' => e = .returned (.int .u64 ((fracN p false : Nat) : Int)) ∧ Below w.heap.size w w' := by
  go_enter Tryd.func19, Tryd.ntmps19
  have HBR : Hid (Below w.heap.size w w) := Lib.hid (Below.refl _ _)
  go_wp2
  go_loopw [5, 6] (fun x b wr => ∃ k : Nat, k ≤ 40 ∧ b = .int .i64 (39 - (k : Int)) ∧ x = .int .u64 ((fx p false k : Nat) : Int) ∧ Hid (Below w.heap.size w wr)) (fun _ b _ => (intOf b + 1).toNat)
  case atStart => exact ⟨0, by omega, rfl, rfl, HBR⟩
  case round =>
    obtain ⟨k, hk, rfl, rfl, hbl⟩ := hrel
    have HF : Hid (fx p false (k + 1) = if takeN p (yN (fx p false k) k) false then yN (fx p false k) k else fx p false k) := Lib.hid rfl
    by_cases hlt : k < 40
    · obtain ⟨x, hx⟩ : ∃ x, fx p false k = x := ⟨_, rfl⟩
      rw [hx] at HF
      rw [hx]
      have HXE := Lib.hid hx
      obtain ⟨b, hb⟩ : ∃ b, 39 - k = b := ⟨_, rfl⟩
      have hb1 : (39 : Int) - (k : Int) = (b : Int) := by omega
      have hb2 : b < 40 := by omega
      obtain ⟨y, hy⟩ : ∃ y, yN x k = y := ⟨_, rfl⟩
      have hyw : IntKind.u64.wrap ((x : Int) + IntKind.u64.wrap (2 ^ b)) = (y : Int) := by
        obtain ⟨P, hP⟩ : ∃ P, (2 : Nat) ^ b = P := ⟨_, rfl⟩
        have hP2 : (2 : Int) ^ b = (P : Int) := by rw [← hP, Int.natCast_pow]; rfl
        rw [hP2, IntKind.wrap_u64, IntKind.wrap_u64, ← hy, yN, hb, hP]
        omega
      rw [hy] at HF
      clear hx hb hy
      rw [hb1]
      go_wp2_with fail
      refine (times_any [1, 0, 0, 0] y _ rfl).mono ?_
      rintro e w1 ⟨rfl, hbl1⟩
      obtain ⟨Z1, hZ1⟩ : ∃ Z1, timesN [1, 0, 0, 0] y = Z1 := ⟨_, rfl⟩
      have hL1 : Z1.length = 4 := by rw [← hZ1, timesN_length]
      rw [hZ1]
      have HE1 := Lib.hid hZ1
      have HL1 := Lib.hid hL1
      have HSZ : Hid (∀ Z : List Nat, Z.length = 4 → (Tryd.prog.info? 53).map (·.size) = some (rcs .u64 Z).size) := Lib.hid fun Z hZ => by rw [rcs_size, hZ]; exact size4
      have HSE : Hid (∀ Z Z' : List Nat, Z.length = 4 → Z'.length = 4 → (rcs .u64 Z).size = (rcs .u64 Z').size) := Lib.hid fun Z Z' hZ hZ' => by rw [rcs_size, rcs_size, hZ, hZ']
      have HB1 : Hid (Below w.heap.size w w1) := Lib.hid (below_step hbl.out hbl1)
      clear hbl1 hZ1 hL1
      go_wp2_with (first
        | (refine wpList_store_row rfl 53 _ _ rfl w1.heap.size _ rfl rfl 53 _ (heap_alloc_new _ _) (HSZ.out _ HL1.out) (HSE.out [0, 0, 0, 0] Z1 rfl HL1.out) (rcs_one _) ?_; generalize hw2 : World.setRow _ _ _ = w2; have HY2 : Hid (Rw .u64 w2 w1.heap.size 53 Z1) := (Lib.hid (by rw [← hw2]; exact setRow_heap _ _ _ _ _ _ (heap_alloc_new _ _))); have HB2 : Hid (Below w.heap.size w w2) := (Lib.hid (by rw [← hw2]; exact below_setRowR (HB1.out.alloc HB1.out.size _) _ _ HB1.out.size)); clear hw2)
        | (refine wpList_load_row rfl 53 _ rfl w1.heap.size rfl 53 _ (0, 0) _ HY2.out Tryd.underlying53 rfl (HSZ.out _ HL1.out) ?_))
      refine (times_any Z1 y _ HL1.out).mono ?_
      rintro e w3 ⟨rfl, hbl3⟩
      obtain ⟨Z2, hZ2⟩ : ∃ Z2, timesN Z1 y = Z2 := ⟨_, rfl⟩
      have hL2 : Z2.length = 4 := by rw [← hZ2, timesN_length]
      rw [hZ2]
      have HE2 : Hid (z1 y = Z2) := Lib.hid (by unfold z1; rw [HE1.out, hZ2])
      have HL2 := Lib.hid hL2
      have HY3 := Lib.hid (HY2.out.later hbl3)
      have HB3 := Lib.hid (below_step HB2.out hbl3)
      clear hbl3 hZ2 hL2
      go_upto_region 8 with (refine wpList_store_row rfl 53 _ _ rfl w1.heap.size _ rfl rfl 53 _ HY3.out (HSZ.out _ HL2.out) (HSE.out _ _ HL1.out HL2.out) (rcs_one _) ?_; generalize hw4 : World.setRow _ _ _ = w4; have HY4 : Hid (Rw .u64 w4 w1.heap.size 53 Z2) := (Lib.hid (by rw [← hw4]; exact HY3.out.row)); have HB4 : Hid (Below w.heap.size w w4) := (Lib.hid (by rw [← hw4]; exact below_setRowR HB3.out _ _ HB1.out.size)); clear hw4)
      have c0 := HY4.out.cell 0 (by rw [HL2.out]; omega)
      have c1 := HY4.out.cell 1 (by rw [HL2.out]; omega)
      have c2 := HY4.out.cell 2 (by rw [HL2.out]; omega)
      have c3 := HY4.out.cell 3 (by rw [HL2.out]; omega)
      obtain ⟨T, hT⟩ : ∃ T, (Z2.getD 2 0 + (Z2.getD 3 0 * 4294967296) % 18446744073709551616) % 18446744073709551616 = T := ⟨_, rfl⟩
      obtain ⟨L, hL⟩ : ∃ L, (Z2.getD 0 0 + Z2.getD 1 0) % 18446744073709551616 = L := ⟨_, rfl⟩
      have HT : takeN p y false = (decide (T < p) || (T == p && !decide (0 < L))) := by rw [← hT, ← hL, ← HE2.out]; simp [takeN, topN, lowN, zl]
      have HYES : Hid ((T < p ∨ (T = p ∧ L = 0)) → fx p false (k + 1) = y) := Lib.hid fun h => by
        rw [HF.out, HT, if_pos]
        rcases h with h | ⟨h, h'⟩ <;> simp [h]
        simp [h']
      have HNO : Hid ((p ≤ T ∧ (T ≠ p ∨ 0 < L)) → fx p false (k + 1) = x) := Lib.hid fun h => by
        rw [HF.out, HT, if_neg]
        rcases h with ⟨h, h' | h'⟩ <;> simp [h, h', Nat.not_lt.2 h]
      clear HT
      generalize Z2.getD 0 0 = A0 at *
      generalize Z2.getD 1 0 = A1 at *
      generalize Z2.getD 2 0 = A2 at *
      generalize Z2.getD 3 0 = A3 at *
      have ht : IntKind.u64.wrap ((A2 : Int) + IntKind.u64.wrap ((A3 : Int) * 4294967296)) = (T : Int) := by rw [IntKind.wrap_u64, IntKind.wrap_u64]; omega
      have hl : IntKind.u64.wrap ((A0 : Int) + (A1 : Int)) = (L : Int) := by rw [IntKind.wrap_u64]; omega
      clear hT hL
      go_wp2
      all_goals
        refine ⟨⟨k + 1, by omega, by go_num, ?_, HB4⟩, by simp [intOf] <;> omega⟩
        first
          | rw [HYES.out (by omega)]
          | rw [HNO.out (by omega)]
    · obtain rfl : k = 40 := by omega
      have HFX : Hid (fracN p false = fx p false 40 % 4294967296) := Lib.hid rfl
      obtain ⟨x, hx⟩ : ∃ x, fx p false 40 = x := ⟨_, rfl⟩
      rw [hx] at HFX
      rw [hx]
      clear HF
      have hxm : (x : Int) % 4294967296 = ((x % 4294967296 : Nat) : Int) := by omega
      clear hx
      go_wp2
      go_ret
      exact ⟨by rw [HFX.out, ← hxm]; rfl, hbl.out⟩

set_option maxRecDepth 100000 in
set_option maxHeartbeats 2000000 in
theorem fraction_true (p : Nat) (w : World) : Calls Tryd.prog 19 #[.int .u64 (p : Int), .bool true] w fun e w' => e = .returned (.int .u64 ((fracN p true : Nat) : Int)) ∧ Below w.heap.size w w' := by
  go_enter Tryd.func19, Tryd.ntmps19
  have HBR : Hid (Below w.heap.size w w) := Lib.hid (Below.refl _ _)
  go_wp2
  go_loopw [5, 6] (fun x b wr => ∃ k : Nat, k ≤ 40 ∧ b = .int .i64 (39 - (k : Int)) ∧ x = .int .u64 ((fx p true k : Nat) : Int) ∧ Hid (Below w.heap.size w wr)) (fun _ b _ => (intOf b + 1).toNat)
  case atStart => exact ⟨0, by omega, rfl, rfl, HBR⟩
  case round =>
    obtain ⟨k, hk, rfl, rfl, hbl⟩ := hrel
    have HF : Hid (fx p true (k + 1) = if takeN p (yN (fx p true k) k) true then yN (fx p true k) k else fx p true k) := Lib.hid rfl
    by_cases hlt : k < 40
    · obtain ⟨x, hx⟩ : ∃ x, fx p true k = x := ⟨_, rfl⟩
      rw [hx] at HF
      rw [hx]
      have HXE := Lib.hid hx
      obtain ⟨b, hb⟩ : ∃ b, 39 - k = b := ⟨_, rfl⟩
      have hb1 : (39 : Int) - (k : Int) = (b : Int) := by omega
      have hb2 : b < 40 := by omega
      obtain ⟨y, hy⟩ : ∃ y, yN x k = y := ⟨_, rfl⟩
      have hyw : IntKind.u64.wrap ((x : Int) + IntKind.u64.wrap (2 ^ b)) = (y : Int) := by
        obtain ⟨P, hP⟩ : ∃ P, (2 : Nat) ^ b = P := ⟨_, rfl⟩
        have hP2 : (2 : Int) ^ b = (P : Int) := by rw [← hP, Int.natCast_pow]; rfl
        rw [hP2, IntKind.wrap_u64, IntKind.wrap_u64, ← hy, yN, hb, hP]
        omega
      rw [hy] at HF
      clear hx hb hy
      rw [hb1]
      go_wp2_with fail
      refine (times_any [1, 0, 0, 0] y _ rfl).mono ?_
      rintro e w1 ⟨rfl, hbl1⟩
      obtain ⟨Z1, hZ1⟩ : ∃ Z1, timesN [1, 0, 0, 0] y = Z1 := ⟨_, rfl⟩
      have hL1 : Z1.length = 4 := by rw [← hZ1, timesN_length]
      rw [hZ1]
      have HE1 := Lib.hid hZ1
      have HL1 := Lib.hid hL1
      have HSZ : Hid (∀ Z : List Nat, Z.length = 4 → (Tryd.prog.info? 53).map (·.size) = some (rcs .u64 Z).size) := Lib.hid fun Z hZ => by rw [rcs_size, hZ]; exact size4
      have HSE : Hid (∀ Z Z' : List Nat, Z.length = 4 → Z'.length = 4 → (rcs .u64 Z).size = (rcs .u64 Z').size) := Lib.hid fun Z Z' hZ hZ' => by rw [rcs_size, rcs_size, hZ, hZ']
      have HB1 : Hid (Below w.heap.size w w1) := Lib.hid (below_step hbl.out hbl1)
      clear hbl1 hZ1 hL1
      go_wp2_with (first
        | (refine wpList_store_row rfl 53 _ _ rfl w1.heap.size _ rfl rfl 53 _ (heap_alloc_new _ _) (HSZ.out _ HL1.out) (HSE.out [0, 0, 0, 0] Z1 rfl HL1.out) (rcs_one _) ?_; generalize hw2 : World.setRow _ _ _ = w2; have HY2 : Hid (Rw .u64 w2 w1.heap.size 53 Z1) := (Lib.hid (by rw [← hw2]; exact setRow_heap _ _ _ _ _ _ (heap_alloc_new _ _))); have HB2 : Hid (Below w.heap.size w w2) := (Lib.hid (by rw [← hw2]; exact below_setRowR (HB1.out.alloc HB1.out.size _) _ _ HB1.out.size)); clear hw2)
        | (refine wpList_load_row rfl 53 _ rfl w1.heap.size rfl 53 _ (0, 0) _ HY2.out Tryd.underlying53 rfl (HSZ.out _ HL1.out) ?_))
      refine (times_any Z1 y _ HL1.out).mono ?_
      rintro e w3 ⟨rfl, hbl3⟩
      obtain ⟨Z2, hZ2⟩ : ∃ Z2, timesN Z1 y = Z2 := ⟨_, rfl⟩
      have hL2 : Z2.length = 4 := by rw [← hZ2, timesN_length]
      rw [hZ2]
      have HE2 : Hid (z1 y = Z2) := Lib.hid (by unfold z1; rw [HE1.out, hZ2])
      have HL2 := Lib.hid hL2
      have HY3 := Lib.hid (HY2.out.later hbl3)
      have HB3 := Lib.hid (below_step HB2.out hbl3)
      clear hbl3 hZ2 hL2
      go_upto_region 8 with (refine wpList_store_row rfl 53 _ _ rfl w1.heap.size _ rfl rfl 53 _ HY3.out (HSZ.out _ HL2.out) (HSE.out _ _ HL1.out HL2.out) (rcs_one _) ?_; generalize hw4 : World.setRow _ _ _ = w4; have HY4 : Hid (Rw .u64 w4 w1.heap.size 53 Z2) := (Lib.hid (by rw [← hw4]; exact HY3.out.row)); have HB4 : Hid (Below w.heap.size w w4) := (Lib.hid (by rw [← hw4]; exact below_setRowR HB3.out _ _ HB1.out.size)); clear hw4)
      have c0 := HY4.out.cell 0 (by rw [HL2.out]; omega)
      have c1 := HY4.out.cell 1 (by rw [HL2.out]; omega)
      have c2 := HY4.out.cell 2 (by rw [HL2.out]; omega)
      have c3 := HY4.out.cell 3 (by rw [HL2.out]; omega)
      obtain ⟨T2, hT2⟩ : ∃ T, (Z2.getD 2 0 + (Z2.getD 3 0 * 4294967296) % 18446744073709551616) % 18446744073709551616 = T := ⟨_, rfl⟩
      generalize Z2.getD 0 0 = A0 at *
      generalize Z2.getD 1 0 = A1 at *
      generalize Z2.getD 2 0 = A2 at *
      generalize Z2.getD 3 0 = A3 at *
      have ht2 : IntKind.u64.wrap ((A2 : Int) + IntKind.u64.wrap ((A3 : Int) * 4294967296)) = (T2 : Int) := by rw [IntKind.wrap_u64, IntKind.wrap_u64]; omega
      clear hT2
      go_wp2_with (refine wpList_load_row rfl 53 _ rfl w1.heap.size rfl 53 _ (0, 0) _ HY4.out Tryd.underlying53 rfl (HSZ.out _ HL2.out) ?_)
      refine (times_any Z2 y _ HL2.out).mono ?_
      rintro e w5 ⟨rfl, hbl5⟩
      obtain ⟨Z3, hZ3⟩ : ∃ Z3, timesN Z2 y = Z3 := ⟨_, rfl⟩
      have hL3 : Z3.length = 4 := by rw [← hZ3, timesN_length]
      rw [hZ3]
      have HE3 : Hid (zl y true = Z3) := Lib.hid (by unfold zl; rw [if_pos rfl, HE2.out, hZ3])
      have HL3 := Lib.hid hL3
      have HY5 := Lib.hid (HY4.out.later hbl5)
      have HB5 := Lib.hid (below_step HB4.out hbl5)
      clear hbl5 hZ3 hL3 c0 c1 c2 c3
      go_upto_region 11 with (refine wpList_store_row rfl 53 _ _ rfl w1.heap.size _ rfl rfl 53 _ HY5.out (HSZ.out _ HL3.out) (HSE.out _ _ HL2.out HL3.out) (rcs_one _) ?_; generalize hw6 : World.setRow _ _ _ = w6; have HY6 : Hid (Rw .u64 w6 w1.heap.size 53 Z3) := (Lib.hid (by rw [← hw6]; exact HY5.out.row)); have HB6 : Hid (Below w.heap.size w w6) := (Lib.hid (by rw [← hw6]; exact below_setRowR HB5.out _ _ HB1.out.size)); clear hw6)
      have c0 := HY6.out.cell 0 (by rw [HL3.out]; omega)
      have c1 := HY6.out.cell 1 (by rw [HL3.out]; omega)
      have c2 := HY6.out.cell 2 (by rw [HL3.out]; omega)
      have c3 := HY6.out.cell 3 (by rw [HL3.out]; omega)
      obtain ⟨L, hL⟩ : ∃ L, (Z3.getD 0 0 + Z3.getD 1 0) % 18446744073709551616 = L := ⟨_, rfl⟩
      have HT : takeN p y true = (decide (Z3.getD 3 0 < p) || (Z3.getD 3 0 == p && !(decide (0 < L) || decide (0 < Z3.getD 2 0)))) := by rw [← hL, ← HE3.out]; simp [takeN, topN, lowN]
      generalize Z3.getD 0 0 = B0 at *
      generalize Z3.getD 1 0 = B1 at *
      generalize Z3.getD 2 0 = B2 at *
      generalize Z3.getD 3 0 = T at *
      have HYES : Hid ((T < p ∨ (T = p ∧ L = 0 ∧ B2 = 0)) → fx p true (k + 1) = y) := Lib.hid fun h => by
        rw [HF.out, HT, if_pos]
        rcases h with h | ⟨h, h', h''⟩ <;> simp [h]
        simp [h', h'']
      have HNO : Hid ((p ≤ T ∧ (T ≠ p ∨ 0 < L ∨ 0 < B2)) → fx p true (k + 1) = x) := Lib.hid fun h => by
        rw [HF.out, HT, if_neg]
        rcases h with ⟨h, h' | h' | h'⟩ <;> simp [h, h', Nat.not_lt.2 h]
      clear HT
      have hl : IntKind.u64.wrap ((B0 : Int) + (B1 : Int)) = (L : Int) := by rw [IntKind.wrap_u64]; omega
      clear hL
      by_cases hB2 : 0 < B2
      · have hd : decide (0 < B2) = true := by simp [hB2]
        go_wp2
        all_goals
          refine ⟨⟨k + 1, by omega, by go_num, ?_, HB6⟩, by simp [intOf] <;> omega⟩
          first
            | rw [HYES.out (by omega)]
            | rw [HNO.out (by omega)]
      · have hd : decide (0 < B2) = false := by simp [hB2]
        go_wp2
        all_goals
          refine ⟨⟨k + 1, by omega, by go_num, ?_, HB6⟩, by simp [intOf] <;> omega⟩
          first
            | rw [HYES.out (by omega)]
            | rw [HNO.out (by omega)]
    · obtain rfl : k = 40 := by omega
      have HFX : Hid (fracN p true = fx p true 40 % 4294967296) := Lib.hid rfl
      obtain ⟨x, hx⟩ : ∃ x, fx p true 40 = x := ⟨_, rfl⟩
      rw [hx] at HFX
      rw [hx]
      clear HF
      have hxm : (x : Int) % 4294967296 = ((x % 4294967296 : Nat) : Int) := by omega
      clear hx
      go_wp2
      go_ret
      exact ⟨by rw [HFX.out, ← hxm]; rfl, hbl.out⟩

end Go.Proofs.YtmhijcciblhjbaaDoor
