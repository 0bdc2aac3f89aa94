/- Walks of package sha and of the reference: the functions on words. -/
import Derived.Test.YtlggbicjgddnaaaDoorShaP
namespace Go.Proofs.YtlggbicjgddnaaaDoor
set_option linter.unusedVariables false
open Go.RowKit Go.Lib

theorem wrap_u32_nat (x : Nat) : IntKind.u32.wrap (x : Int) = ((x % 4294967296 : Nat) : Int) := by rw [IntKind.wrap_u32']; omega
theorem neg_and (n : Nat) (h : 0 < n) (h2 : n < 32) : bits BinOp.and IntKind.u64 (IntKind.u64.wrap (-(n : Int))) 31 = ((32 - n : Nat) : Int) := by
  have key : ∀ n : Fin 32, 0 < n.val → bits BinOp.and IntKind.u64 (IntKind.u64.wrap (-((n.val : Nat) : Int))) 31 = ((32 - n.val : Nat) : Int) := by decide +kernel
  exact key ⟨n, h2⟩ h

theorem shl_nat (x m : Nat) : (x : Int) * 2 ^ m % 4294967296 = ((x * 2 ^ m % 4294967296 : Nat) : Int) := by
  rw [Int.natCast_emod, Int.natCast_mul, Int.natCast_pow]; rfl
theorem shr_nat (x m : Nat) : (x : Int) / 2 ^ m = ((x / 2 ^ m : Nat) : Int) := by
  rw [Int.natCast_ediv, Int.natCast_pow]; rfl
theorem shr_lt {x : Nat} (m : Nat) (h : x < 4294967296) : x / 2 ^ m < 4294967296 := Nat.lt_of_le_of_lt (Nat.div_le_self _ _) h
theorem rot_or (x n : Nat) (hx : x < 4294967296) : bits BinOp.or IntKind.u32 ((x : Int) * 2 ^ (32 - n) % 4294967296) ((x : Int) / 2 ^ n) = ((rr x n : Nat) : Int) := by
  rw [shl_nat, shr_nat, u32_or_nat _ _ (m32 _) (shr_lt n hx), Nat.or_comm]; rfl
theorem rot_or' (x n : Nat) (hx : x < 4294967296) : bits BinOp.or IntKind.u32 ((x : Int) / 2 ^ n) ((x : Int) * 2 ^ (32 - n) % 4294967296) = ((rr x n : Nat) : Int) := by
  rw [shl_nat, shr_nat, u32_or_nat _ _ (shr_lt n hx) (m32 _)]; rfl

theorem rotl_any (x n : Nat) (k : Int) (w : World) (hx : x < 4294967296) (h0 : 0 < n) (h1 : n < 32) (hk : k = -(n : Int)) :
    Calls Tryd.prog 80 #[.int .u32 (x : Int), .int .i64 k] w fun e w' => e = .returned (.int .u32 ((rr x n : Nat) : Int)) ∧ w = w' := by
  have hm := neg_and n h0 h1
  rw [← hk] at hm
  clear hk
  go_enter Tryd.func80, Tryd.ntmps80
  go_wp2
  go_ret
  refine ⟨ret_int ?_, rfl⟩
  rw [show 32 - (32 - n) = n by omega]
  exact rot_or x n hx

theorem sright_any (x n : Nat) (w : World) (hx : x < 4294967296) (h0 : 0 < n) (h1 : n < 32) :
    Calls Tryd.prog 78 #[.int .u32 (x : Int), .int .i64 (n : Int)] w fun e w' => e = .returned (.int .u32 ((rr x n : Nat) : Int)) ∧ w = w' := by
  go_enter Tryd.func78, Tryd.ntmps78
  go_wp2_with fail
  refine (rotl_any x n _ _ hx h0 h1 (by first | rfl | (simp; done) | skip)).mono ?_
  rintro e w' ⟨rfl, rfl⟩
  go_wp2
  go_ret
  exact ⟨rfl, rfl⟩

theorem rright_any (x n : Nat) (w : World) (hx : x < 4294967296) (h0 : 0 < n) (h1 : n < 32) :
    Calls Tryd.prog 42 #[.int .u32 (x : Int), .int .u64 (n : Int)] w fun e w' => e = .returned (.int .u32 ((rr x n : Nat) : Int)) ∧ w = w' := by
  go_enter Tryd.func42, Tryd.ntmps42
  go_wp2
  go_ret
  exact ⟨ret_int (rot_or' x n hx), rfl⟩

theorem smallS0_any (x : Nat) (w : World) (hx : x < 4294967296) :
    Calls Tryd.prog 77 #[.int .u32 (x : Int)] w fun e w' => e = .returned (.int .u32 ((ss0 x : Nat) : Int)) ∧ w = w' := by
  go_enter Tryd.func77, Tryd.ntmps77
  go_wp2_with (go_at_call 78; refine (sright_any x _ _ hx ?_ ?_).mono ?_; decide; decide; rintro e w' ⟨rfl, rfl⟩)
  go_ret
  refine ⟨ret_int ?_, rfl⟩
  have e : (x : Int) / 8 = ((x / 8 : Nat) : Int) := by omega
  rw [e, u32_xor_nat _ _ (rr_lt _ hx) (rr_lt _ hx), u32_xor_nat _ _ (xor32 (rr_lt _ hx) (rr_lt _ hx)) (by omega)]
  rfl

theorem smallS1_any (x : Nat) (w : World) (hx : x < 4294967296) :
    Calls Tryd.prog 76 #[.int .u32 (x : Int)] w fun e w' => e = .returned (.int .u32 ((ss1 x : Nat) : Int)) ∧ w = w' := by
  go_enter Tryd.func76, Tryd.ntmps76
  go_wp2_with (go_at_call 78; refine (sright_any x _ _ hx ?_ ?_).mono ?_; decide; decide; rintro e w' ⟨rfl, rfl⟩)
  go_ret
  refine ⟨ret_int ?_, rfl⟩
  have e : (x : Int) / 1024 = ((x / 1024 : Nat) : Int) := by omega
  rw [e, u32_xor_nat _ _ (rr_lt _ hx) (rr_lt _ hx), u32_xor_nat _ _ (xor32 (rr_lt _ hx) (rr_lt _ hx)) (by omega)]
  rfl

theorem bigS0_any (x : Nat) (w : World) (hx : x < 4294967296) :
    Calls Tryd.prog 67 #[.int .u32 (x : Int)] w fun e w' => e = .returned (.int .u32 ((sS0 x : Nat) : Int)) ∧ w = w' := by
  go_enter Tryd.func67, Tryd.ntmps67
  go_wp2_with (go_at_call 78; refine (sright_any x _ _ hx ?_ ?_).mono ?_; decide; decide; rintro e w' ⟨rfl, rfl⟩)
  go_ret
  refine ⟨ret_int ?_, rfl⟩
  rw [u32_xor_nat _ _ (rr_lt _ hx) (rr_lt _ hx), u32_xor_nat _ _ (xor32 (rr_lt _ hx) (rr_lt _ hx)) (rr_lt _ hx)]
  rfl

theorem bigS1_any (x : Nat) (w : World) (hx : x < 4294967296) :
    Calls Tryd.prog 66 #[.int .u32 (x : Int)] w fun e w' => e = .returned (.int .u32 ((sS1 x : Nat) : Int)) ∧ w = w' := by
  go_enter Tryd.func66, Tryd.ntmps66
  go_wp2_with (go_at_call 78; refine (sright_any x _ _ hx ?_ ?_).mono ?_; decide; decide; rintro e w' ⟨rfl, rfl⟩)
  go_ret
  refine ⟨ret_int ?_, rfl⟩
  rw [u32_xor_nat _ _ (rr_lt _ hx) (rr_lt _ hx), u32_xor_nat _ _ (xor32 (rr_lt _ hx) (rr_lt _ hx)) (rr_lt _ hx)]
  rfl


theorem or_add24 {x y : Nat} (hy : y < 16777216) (hx : x < 256) : (x * 16777216) ||| y = x * 16777216 + y := nat_join 24 _ _ (by omega) (by omega)
theorem or_bytes {a b c d : Nat} (ha : a < 256) (hb : b < 256) (hc : c < 256) (hd : d < 256) : (((a * 16777216) ||| (b * 65536)) ||| (c * 256)) ||| d = a * 16777216 + b * 65536 + c * 256 + d := by
  rw [nat_join 24 (a * 16777216) (b * 65536) (by omega) (by omega), nat_join 16 _ (c * 256) (by omega) (by omega), nat_join 8 _ d (by omega) (by omega)]

theorem mul_lt24 (y : Nat) (h : y < 256) : y * 16777216 < 4294967296 := Nat.mul_lt_mul_of_pos_right (k := 16777216) h (by decide)
theorem mul_lt16 (y : Nat) (h : y < 256) : y * 65536 < 4294967296 := Nat.lt_of_lt_of_le (Nat.mul_lt_mul_of_pos_right (k := 65536) h (by decide)) (by decide)
theorem mul_lt8 (y : Nat) (h : y < 256) : y * 256 < 4294967296 := Nat.lt_of_lt_of_le (Nat.mul_lt_mul_of_pos_right (k := 256) h (by decide)) (by decide)
theorem lt8 (y : Nat) (h : y < 256) : y < 4294967296 := Nat.lt_of_lt_of_le h (by decide)
theorem word_nums (y0 y1 y2 y3 : Nat) (h0 : y0 < 256) (h1 : y1 < 256) (h2 : y2 < 256) (h3 : y3 < 256) :
    bits BinOp.or IntKind.u32 (bits BinOp.or IntKind.u32 (bits BinOp.or IntKind.u32 ((y0 : Int) * 16777216) ((y1 : Int) * 65536)) ((y2 : Int) * 256)) (y3 : Int) = ((y0 * 16777216 + y1 * 65536 + y2 * 256 + y3 : Nat) : Int) := by
  have e0 : (y0 : Int) * 16777216 = ((y0 * 16777216 : Nat) : Int) := by omega
  have e1 : (y1 : Int) * 65536 = ((y1 * 65536 : Nat) : Int) := by omega
  have e2 : (y2 : Int) * 256 = ((y2 * 256 : Nat) : Int) := by omega
  have l0 := mul_lt24 y0 h0
  have l1 := mul_lt16 y1 h1
  have l2 := mul_lt8 y2 h2
  rw [e0, e1, e2, u32_or_nat _ _ l0 l1, u32_or_nat _ _ (or32 l0 l1) l2, u32_or_nat _ _ (or32 (or32 l0 l1) l2) (lt8 y3 h3), or_bytes h0 h1 h2 h3]

theorem word_any (p : Option Addr) (n cap : Nat) (zs : List Int) (w : World) (hn : n = 4) (h : Bs w p 4 zs) :
    Calls Tryd.prog 75 #[.slice p n cap] w fun e w' => e = .returned (.int .u32 ((wd zs 0 : Nat) : Int)) ∧ ∃ q, w' = w.drewN q := by
  subst hn
  obtain ⟨hl, hb, h3⟩ := h
  rcases h3 with h3 | ⟨b, off, rfl, hcell⟩
  · omega
  · have c0 := hcell 0 (by omega)
    have c1 := hcell 1 (by omega)
    have c2 := hcell 2 (by omega)
    have c3 := hcell 3 (by omega)
    have b0 := hb 0
    have b1 := hb 1
    have b2 := hb 2
    have b3 := hb 3
    have hw : wd zs 0 = (zs.getD 0 0).toNat * 16777216 + (zs.getD 1 0).toNat * 65536 + (zs.getD 2 0).toNat * 256 + (zs.getD 3 0).toNat := rfl
    rw [hw]
    clear hw hcell hb hl
    generalize zs.getD 0 0 = x0 at *
    generalize zs.getD 1 0 = x1 at *
    generalize zs.getD 2 0 = x2 at *
    generalize zs.getD 3 0 = x3 at *
    obtain ⟨y0, rfl⟩ := Int.eq_ofNat_of_zero_le b0.1
    obtain ⟨y1, rfl⟩ := Int.eq_ofNat_of_zero_le b1.1
    obtain ⟨y2, rfl⟩ := Int.eq_ofNat_of_zero_le b2.1
    obtain ⟨y3, rfl⟩ := Int.eq_ofNat_of_zero_le b3.1
    rw [Nat.add_zero] at c0
    go_enter Tryd.func75, Tryd.ntmps75
    go_wp2
    go_quiet (fail)
    go_wp2
    go_ret
    refine ⟨ret_int ?_, _, rfl⟩
    rw [Int.toNat_natCast, Int.toNat_natCast, Int.toNat_natCast, Int.toNat_natCast]
    exact word_nums y0 y1 y2 y3 (by omega) (by omega) (by omega) (by omega)
end Go.Proofs.YtlggbicjgddnaaaDoor
