/- Facts on uint8, for layers without the reference's Same; The check sum on plain numbers: the register, the reference's division, and that a burst of 32 bits is seen; Walks of the reference of layer 1: Same -/
import Derived.Test.YtjdigncieoaglaaSt2
import Derived.Laws.Rows
set_option linter.unusedSimpArgs false
set_option linter.unusedVariables false
namespace Go.Proofs.Ytjdigncieoaglaa
set_option linter.unusedVariables false
open Go.RowKit Go.Lib
theorem info8 : (Try.prog.info? 5).map (fun i => (i.zero, i.size, i.bytes)) = some (some (.int .u8 0), 1, 1) := by kernel_rfl
theorem size8 : (Try.prog.info? 5).map (·.size) = some 1 := by kernel_rfl
theorem cells8 : Try.prog.cellsOf 5 = 1 := by kernel_rfl
theorem bs_lit_fr (w : World) (e : TypeId) (cs : Array Value) (fr : Nat × Nat) (xs : List Int) (n : Nat) (hn : xs.length = n) (hx : ∀ j, 0 ≤ xs.getD j 0 ∧ xs.getD j 0 < 256) (hcs : cs.toList = xs.map (Value.int .u8)) :
    Bs (w.alloc (.cells cs e fr)) (some ⟨w.heap.size, 0, none⟩) n xs := by
  refine ⟨hn, hx, Or.inr ⟨w.heap.size, 0, rfl, fun j hj => ?_⟩⟩
  rw [Nat.zero_add, cell_of_row _ _ _ cs e fr (heap_alloc_new _ _), ← Array.getElem?_toList, hcs]
  have : j < xs.length := by omega
  simp [List.getD_eq_getElem?_getD, this]
end Go.Proofs.Ytjdigncieoaglaa

namespace Go.Proofs.Ytjdigncieoaglaa
set_option linter.unusedVariables false
/-- one step of the register, the lowest bit leaving -/
def cT (r : Nat) : Nat := if r % 2 = 1 then (r / 2) ^^^ 0x82f63b78 else r / 2
/-- one bit taken -/
def cS (r : Nat) (b : Bool) : Nat := cT (r ^^^ b.toNat)
def cRun (r : Nat) : List Bool → Nat
  | [] => r
  | b :: l => cRun (cS r b) l
/-- bits as a number, the lowest first -/
def numL : List Bool → Nat
  | [] => 0
  | b :: l => b.toNat + 2 * numL l
def cTn (r : Nat) : Nat → Nat
  | 0 => r
  | n + 1 => cTn (cT r) n

theorem xor_mod2 (a b : Nat) : (a ^^^ b) % 2 = (a + b) % 2 := by
  have h := Nat.testBit_xor a b 0
  simp only [Nat.testBit_zero] at h
  rcases Nat.mod_two_eq_zero_or_one a with ha | ha <;> rcases Nat.mod_two_eq_zero_or_one b with hb | hb <;> rcases Nat.mod_two_eq_zero_or_one (a ^^^ b) with hc | hc <;> simp [ha, hb, hc] at h <;> omega
theorem xor_div2 (a b : Nat) : (a ^^^ b) / 2 = (a / 2) ^^^ (b / 2) := by
  have h := Nat.shiftRight_xor_distrib (a := a) (b := b) (i := 1)
  simpa [Nat.shiftRight_succ] using h
theorem cT_xor (a b : Nat) : cT (a ^^^ b) = cT a ^^^ cT b := by
  unfold cT
  have h1 := xor_mod2 a b
  have h2 := xor_div2 a b
  have := Nat.mod_two_eq_zero_or_one a
  have := Nat.mod_two_eq_zero_or_one b
  rw [h2]
  rcases Nat.mod_two_eq_zero_or_one a with ha | ha <;> rcases Nat.mod_two_eq_zero_or_one b with hb | hb
  · rw [if_neg (by omega), if_neg (by omega), if_neg (by omega)]
  · rw [if_pos (by omega), if_neg (by omega), if_pos (by omega), Nat.xor_assoc]
  · rw [if_pos (by omega), if_pos (by omega), if_neg (by omega)]
    rw [Nat.xor_assoc, Nat.xor_assoc, Nat.xor_comm (b / 2)]
  · rw [if_neg (by omega), if_pos (by omega), if_pos (by omega)]
    rw [Nat.xor_assoc, ← Nat.xor_assoc 0x82f63b78, Nat.xor_comm 0x82f63b78 (b / 2), Nat.xor_assoc (b / 2), Nat.xor_self, Nat.xor_zero]
theorem cT_zero : cT 0 = 0 := rfl
theorem cTn_xor (a b n : Nat) : cTn (a ^^^ b) n = cTn a n ^^^ cTn b n := by
  induction n generalizing a b with
  | zero => rfl
  | succ n ih => simp only [cTn, cT_xor, ih]
theorem cTn_zero (n : Nat) : cTn 0 n = 0 := by
  induction n with
  | zero => rfl
  | succ n ih => exact ih
theorem cT_lt {r : Nat} (h : r < 4294967296) : cT r < 4294967296 := by
  unfold cT
  split
  · exact Nat.xor_lt_two_pow (n := 32) (by omega) (by omega)
  · omega
theorem cT_ne {r : Nat} (h : r < 4294967296) (h0 : r ≠ 0) : cT r ≠ 0 := by
  unfold cT
  split
  · intro e
    have e2 : r / 2 = 0x82f63b78 := by
      have := congrArg (· ^^^ 0x82f63b78) e
      simp only [Nat.xor_assoc, Nat.xor_self, Nat.xor_zero, Nat.zero_xor] at this
      exact this
    omega
  · omega
theorem cTn_lt {r : Nat} (n : Nat) (h : r < 4294967296) : cTn r n < 4294967296 := by
  induction n generalizing r with
  | zero => exact h
  | succ n ih => exact ih (cT_lt h)
theorem cTn_ne {r : Nat} (n : Nat) (h : r < 4294967296) (h0 : r ≠ 0) : cTn r n ≠ 0 := by
  induction n generalizing r with
  | zero => exact h0
  | succ n ih => exact ih (cT_lt h) (cT_ne h h0)
theorem cRun_app (r : Nat) (l m : List Bool) : cRun r (l ++ m) = cRun (cRun r l) m := by
  induction l generalizing r with
  | nil => rfl
  | cons b l ih => exact ih _
theorem cRun_lt {r : Nat} (l : List Bool) (h : r < 4294967296) : cRun r l < 4294967296 := by
  induction l generalizing r with
  | nil => exact h
  | cons b l ih => exact ih (cT_lt (Nat.xor_lt_two_pow (n := 32) h (by cases b <;> decide)))
/-- two runs at once -/
theorem cRun_xor (a b : Nat) (l m : List Bool) (h : l.length = m.length) : cRun (a ^^^ b) (List.zipWith xor l m) = cRun a l ^^^ cRun b m := by
  induction l generalizing a b m with
  | nil => cases m with
    | nil => rfl
    | cons => cases h
  | cons x l ih => cases m with
    | nil => cases h
    | cons y m =>
      simp only [List.zipWith_cons_cons, cRun]
      rw [← ih (h := by simpa using h)]
      congr 1
      unfold cS
      rw [← cT_xor]
      congr 1
      have : (xor x y).toNat = x.toNat ^^^ y.toNat := by cases x <;> cases y <;> rfl
      rw [this, Nat.xor_assoc, Nat.xor_assoc, ← Nat.xor_assoc b, Nat.xor_comm b, Nat.xor_assoc]
theorem cRun_zeros (r n : Nat) : cRun r (List.replicate n false) = cTn r n := by
  induction n generalizing r with
  | zero => rfl
  | succ n ih => simp only [List.replicate_succ, cRun, cS, cTn, Bool.toNat_false, Nat.xor_zero, ih]
/-- from nothing: at most 32 bits stand in the register as a number that is turned on -/
theorem cT_even (x : Nat) : cT (2 * x) = x := by
  unfold cT; rw [if_neg (by omega)]; omega
theorem cTn_shift (x n : Nat) : cTn (2 ^ n * x) n = x := by
  induction n generalizing x with
  | zero => simp [cTn]
  | succ n ih =>
    simp only [cTn]
    rw [show 2 ^ (n + 1) * x = 2 * (2 ^ n * x) by rw [Nat.pow_succ, Nat.mul_comm (2 ^ n) 2, Nat.mul_assoc], cT_even, ih]
theorem cRun_num (r : Nat) (l : List Bool) : cRun r l = cTn (r ^^^ numL l) l.length := by
  induction l generalizing r with
  | nil => simp [cRun, numL, cTn]
  | cons b l ih =>
    simp only [cRun, List.length_cons, cTn, numL]
    rw [ih]
    congr 1
    have h1 : b.toNat + 2 * numL l = b.toNat ^^^ (2 * numL l) := by
      have hx := xor_mod2 b.toNat (2 * numL l)
      have hd := xor_div2 b.toNat (2 * numL l)
      have hb : b.toNat / 2 = 0 := by cases b <;> rfl
      have hb1 : b.toNat < 2 := by cases b <;> decide
      rw [hb, Nat.zero_xor] at hd
      omega
    rw [h1, ← Nat.xor_assoc, cT_xor, cT_even]
    rfl
theorem numL_lt (l : List Bool) : numL l < 2 ^ l.length := by
  induction l with
  | nil => simp [numL]
  | cons b l ih => simp only [numL, List.length_cons, Nat.pow_succ]; cases b <;> simp <;> omega
theorem numL_ne (l : List Bool) (h : true ∈ l) : numL l ≠ 0 := by
  induction l with
  | nil => cases h
  | cons b l ih =>
    simp only [numL]
    cases b
    · have := ih (by simpa using h); simp only [Bool.toNat_false]; omega
    · simp
/-- A BURST IS SEEN. -/
theorem burst_seen (a c : Nat) (d : List Bool) (hd : d.length ≤ 32) (ht : true ∈ d) : cRun 0 (List.replicate a false ++ d ++ List.replicate c false) ≠ 0 := by
  rw [cRun_app, cRun_app, cRun_zeros, cRun_zeros, cTn_zero, cRun_num, Nat.zero_xor]
  have h1 : numL d < 4294967296 := Nat.lt_of_lt_of_le (numL_lt d) (Nat.pow_le_pow_right (n := 2) (by omega) hd)
  exact cTn_ne _ (cTn_lt _ h1) (cTn_ne _ h1 (numL_ne d ht))

/-- the reference's division, the highest power first -/
def uT (r : Nat) : Nat := if 2147483648 ≤ r then (r * 2 % 4294967296) ^^^ 0x1edc6f41 else r * 2 % 4294967296
def uS (r : Nat) (b : Bool) : Nat := if 2147483648 ≤ r then (r * 2 % 4294967296 + b.toNat) ^^^ 0x1edc6f41 else r * 2 % 4294967296 + b.toNat
def uRun (r : Nat) : List Bool → Nat
  | [] => r
  | b :: l => uRun (uS r b) l
/-- the other way round -/
def rev32 (x : Nat) : Nat := (List.range 32).foldl (fun o i => o * 2 + x / 2 ^ i % 2) 0
def revN (x : Nat) : Nat → Nat
  | 0 => 0
  | n + 1 => revN x n * 2 + x / 2 ^ n % 2
theorem rev32_eq (x : Nat) : rev32 x = revN x 32 := rfl
theorem revN_bit (x n i : Nat) : (revN x n).testBit i = (decide (i < n) && x.testBit (n - 1 - i)) := by
  induction n generalizing i with
  | zero => simp [revN]
  | succ n ih =>
    rw [revN]
    cases i with
    | zero =>
      rw [Nat.testBit_zero, Nat.testBit_eq_decide_div_mod_eq]
      simp
    | succ i =>
      rw [Nat.testBit_succ, show (revN x n * 2 + x / 2 ^ n % 2) / 2 = revN x n by omega, ih]
      by_cases h : i < n
      · simp [h, show n - 1 - i = n - (i + 1) by omega]
      · simp [h]
theorem rev_ext {a b : Nat} (ha : a < 4294967296) (hb : b < 4294967296) (h : ∀ i, i < 32 → a.testBit i = b.testBit i) : a = b := by
  apply Nat.eq_of_testBit_eq
  intro i
  by_cases hi : i < 32
  · exact h i hi
  · have h1 : a < 2 ^ i := Nat.lt_of_lt_of_le ha (Nat.pow_le_pow_right (n := 2) (i := 32) (by omega) (by omega))
    have h2 : b < 2 ^ i := Nat.lt_of_lt_of_le hb (Nat.pow_le_pow_right (n := 2) (i := 32) (by omega) (by omega))
    rw [Nat.testBit_lt_two_pow h1, Nat.testBit_lt_two_pow h2]
theorem revN_lt (x n : Nat) : revN x n < 2 ^ n := by
  induction n with
  | zero => simp [revN]
  | succ n ih => rw [revN, Nat.pow_succ]; omega
theorem rev32_lt (x : Nat) : rev32 x < 4294967296 := revN_lt x 32
theorem rev32_rev {x : Nat} (h : x < 4294967296) : rev32 (rev32 x) = x := by
  refine rev_ext (rev32_lt _) h fun i hi => ?_
  rw [rev32_eq, revN_bit, rev32_eq, revN_bit]
  simp [hi, show 32 - 1 - i < 32 by omega, show 31 - (31 - i) = i by omega]
theorem rev32_xor (a b : Nat) : rev32 (a ^^^ b) = rev32 a ^^^ rev32 b := by
  refine rev_ext (rev32_lt _) (Nat.xor_lt_two_pow (n := 32) (rev32_lt _) (rev32_lt _)) fun i hi => ?_
  rw [Nat.testBit_xor, rev32_eq, rev32_eq, rev32_eq, revN_bit, revN_bit, revN_bit, Nat.testBit_xor]
  simp [hi]
/-- the turned register steps as the document's -/
theorem rev_uT {r : Nat} (h : r < 4294967296) : rev32 (uT r) = cT (rev32 r) := by
  have hr2 : rev32 (r * 2 % 4294967296) = rev32 r / 2 := by
    refine rev_ext (rev32_lt _) (by have := rev32_lt r; omega) fun i hi => ?_
    have e : rev32 r / 2 = rev32 r >>> 1 := by simp [Nat.shiftRight_succ]
    have e2 : r * 2 = r <<< 1 := by simp [Nat.shiftLeft_eq]
    rw [e, Nat.testBit_shiftRight, rev32_eq, rev32_eq, revN_bit, revN_bit, show (4294967296 : Nat) = 2 ^ 32 from rfl, Nat.testBit_mod_two_pow, e2, Nat.testBit_shiftLeft]
    by_cases h31 : i = 31
    · subst h31; simp
    · simp [hi, show 1 + i < 32 by omega, show 31 - i < 32 by omega, show 1 ≤ 31 - i by omega, show 31 - i - 1 = 31 - (1 + i) by omega]
  have hb : rev32 r % 2 = 1 ↔ 2147483648 ≤ r := by
    have h1 := revN_bit r 32 0
    rw [Nat.testBit_zero] at h1
    simp only [Nat.reduceLT, decide_true, Bool.true_and, Nat.sub_zero, Nat.reduceSub] at h1
    rw [Nat.testBit_eq_decide_div_mod_eq, show 2 ^ 31 = 2147483648 from rfl] at h1
    rw [rev32_eq]
    have h2 := decide_eq_decide.1 h1
    omega
  unfold uT cT
  by_cases ht : 2147483648 ≤ r
  · rw [if_pos ht, if_pos (hb.2 ht), rev32_xor, hr2]
    rfl
  · rw [if_neg ht, if_neg (fun e => ht (hb.1 e)), hr2]
theorem uT_lt {r : Nat} : uT r < 4294967296 := by
  unfold uT
  split
  · exact Nat.xor_lt_two_pow (n := 32) (by omega) (by omega)
  · omega
theorem uS_eq (r : Nat) (b : Bool) : uS r b = uT r ^^^ b.toNat := by
  have e : r * 2 % 4294967296 + b.toNat = (r * 2 % 4294967296) ^^^ b.toNat := by
    have hx := xor_mod2 (r * 2 % 4294967296) b.toNat
    have hd := xor_div2 (r * 2 % 4294967296) b.toNat
    have hb : b.toNat / 2 = 0 := by cases b <;> rfl
    have hb1 : b.toNat < 2 := by cases b <;> decide
    rw [hb, Nat.xor_zero] at hd
    omega
  unfold uS uT
  rw [e]
  split
  · rw [Nat.xor_assoc, Nat.xor_assoc, Nat.xor_comm b.toNat]
  · rfl
theorem uS_lt (r : Nat) (b : Bool) : uS r b < 4294967296 := by
  rw [uS_eq]
  exact Nat.xor_lt_two_pow (n := 32) uT_lt (by cases b <;> decide)
/-- a bit taken by the reference, its register turned round: the document's turn, with the bit in the highest place -/
def vS (r : Nat) (b : Bool) : Nat := cT r ^^^ (2147483648 * b.toNat)
def vRun (r : Nat) : List Bool → Nat
  | [] => r
  | b :: l => vRun (vS r b) l
theorem rev_uRun {r : Nat} (h : r < 4294967296) (l : List Bool) : rev32 (uRun r l) = vRun (rev32 r) l := by
  induction l generalizing r with
  | nil => rfl
  | cons b l ih =>
    simp only [uRun, vRun]
    rw [ih (uS_lt _ _)]
    congr 1
    rw [uS_eq, rev32_xor, rev_uT h, vS]
    cases b <;> rfl
theorem vS_xor (a b : Nat) (x y : Bool) : vS (a ^^^ b) (xor x y) = vS a x ^^^ vS b y := by
  unfold vS
  rw [cT_xor]
  have : 2147483648 * (xor x y).toNat = (2147483648 * x.toNat) ^^^ (2147483648 * y.toNat) := by cases x <;> cases y <;> rfl
  rw [this, Nat.xor_assoc, Nat.xor_assoc, ← Nat.xor_assoc (cT b), Nat.xor_comm (cT b), Nat.xor_assoc]
theorem vRun_xor (a b : Nat) (l m : List Bool) (h : l.length = m.length) : vRun (a ^^^ b) (List.zipWith xor l m) = vRun a l ^^^ vRun b m := by
  induction l generalizing a b m with
  | nil => cases m with
    | nil => rfl
    | cons => cases h
  | cons x l ih => cases m with
    | nil => cases h
    | cons y m =>
      simp only [List.zipWith_cons_cons, vRun]
      rw [vS_xor, ih _ _ _ (by simpa using h)]
theorem vRun_zeros (r n : Nat) : vRun r (List.replicate n false) = cTn r n := by
  induction n generalizing r with
  | zero => rfl
  | succ n ih => simp only [List.replicate_succ, vRun, vS, cTn, Bool.toNat_false, Nat.mul_zero, Nat.xor_zero, ih]
theorem vRun_app (r : Nat) (l m : List Bool) : vRun r (l ++ m) = vRun (vRun r l) m := by
  induction l generalizing r with
  | nil => rfl
  | cons b l ih => exact ih _
theorem cTn_succ (r n : Nat) : cTn r (n + 1) = cT (cTn r n) := by
  induction n generalizing r with
  | zero => rfl
  | succ n ih => rw [cTn, ih]; rfl
theorem cTn_comm (r n : Nat) : cTn (cT r) n = cT (cTn r n) := cTn_succ r n
theorem xor_congr {a b c d : Nat} (h : a = c) (h2 : b = d) : a ^^^ b = c ^^^ d := by rw [h, h2]
theorem vRun_cons (r : Nat) (b : Bool) (l : List Bool) : vRun r (b :: l) = vRun (vS r b) l := rfl
theorem cRun_cons (r : Nat) (b : Bool) (l : List Bool) : cRun r (b :: l) = cRun (cS r b) l := rfl
/-- with 32 zeros behind: the document's register -/
theorem vRun_direct (r : Nat) (l : List Bool) : cTn (vRun r l) 32 = cRun (cTn r 32) l := by
  induction l generalizing r with
  | nil => rfl
  | cons b l ih =>
    have e : ∀ b : Bool, cTn (2147483648 * b.toNat) 32 = cT b.toNat := by decide +kernel
    have h : cTn (vS r b) 32 = cS (cTn r 32) b := (cTn_xor (cT r) (2147483648 * b.toNat) 32).trans ((xor_congr (cTn_comm r 32) (e b)).trans (cT_xor (cTn r 32) b.toNat).symm)
    rw [vRun_cons, cRun_cons, ih, h]
theorem vRun_zero_direct (l : List Bool) : vRun 0 (l ++ List.replicate 32 false) = cRun 0 l := by
  rw [vRun_app, vRun_zeros, vRun_direct, cTn_zero]
/-- the first 32 bits turned round -/
def inv32 (l : List Bool) : List Bool := List.zipWith xor l (List.replicate 32 true ++ List.replicate (l.length - 32) false)
theorem vRun_inv (l : List Bool) : vRun 0 (inv32 (l ++ List.replicate 32 false)) = cRun 4294967295 l := by
  have e1 : vRun 0 (List.replicate 32 true ++ List.replicate l.length false) = cTn 4294967295 l.length := by
    have e0 : vRun 0 (List.replicate 32 true) = 4294967295 := by decide +kernel
    rw [vRun_app, vRun_zeros, e0]
  unfold inv32
  rw [show (l ++ List.replicate 32 false).length - 32 = l.length by simp]
  have h := vRun_xor 0 0 (l ++ List.replicate 32 false) (List.replicate 32 true ++ List.replicate l.length false) (by rw [List.length_append, List.length_append, List.length_replicate, List.length_replicate, List.length_replicate, Nat.add_comm])
  rw [Nat.xor_self] at h
  rw [h, vRun_zero_direct, e1, ← cRun_zeros, ← cRun_xor _ _ _ _ (by simp), Nat.zero_xor]
  congr 1
  clear h e1
  induction l with
  | nil => rfl
  | cons b l ih => simp only [List.length_cons, List.replicate_succ, List.zipWith_cons_cons, ih, Bool.xor_false]
theorem uRun_inv (l : List Bool) : rev32 (uRun 0 (inv32 (l ++ List.replicate 32 false))) = cRun 4294967295 l := by
  rw [rev_uRun (by omega), ← vRun_inv]
  rfl
/-- bit j of bytes, the lowest of each first -/
def bAt (zs : List Int) (j : Nat) : Bool := (zs.getD (j / 8) 0).toNat.testBit (j % 8)
def bitsTo (zs : List Int) (n : Nat) : List Bool := (List.range n).map (bAt zs)
def bitsZ (zs : List Int) : List Bool := bitsTo zs (8 * zs.length)
def byteBits (b : Nat) : List Bool := (List.range 8).map b.testBit
def crcReg (r : Nat) (zs : List Int) (k : Nat) : Nat := cRun r (bitsTo zs (8 * k))
def crcN (zs : List Int) : Nat := 4294967295 - cRun 4294967295 (bitsZ zs)

theorem bitsTo_length (zs : List Int) (n : Nat) : (bitsTo zs n).length = n := by simp [bitsTo]
theorem bitsTo_byte (zs : List Int) (k : Nat) : bitsTo zs (8 * (k + 1)) = bitsTo zs (8 * k) ++ byteBits (zs.getD k 0).toNat := by
  unfold bitsTo byteBits
  rw [show 8 * (k + 1) = 8 * k + 8 by omega, List.range_add, List.map_append, List.map_map]
  congr 1
  apply List.map_congr_left
  intro i hi
  have := List.mem_range.1 hi
  simp only [Function.comp, bAt]
  rw [show (8 * k + i) / 8 = k by omega, show (8 * k + i) % 8 = i by omega]
theorem numL_byte {b : Nat} (h : b < 256) : numL (byteBits b) = b := by
  have : ∀ b : Fin 256, numL (byteBits b.val) = b.val := by decide +kernel
  exact this ⟨b, h⟩
theorem crcReg_succ (r : Nat) (zs : List Int) (k : Nat) (h : (zs.getD k 0).toNat < 256) : crcReg r zs (k + 1) = cTn (crcReg r zs k ^^^ (zs.getD k 0).toNat) 8 := by
  unfold crcReg
  rw [bitsTo_byte, cRun_app, cRun_num, numL_byte h]
  rfl
theorem cTn_add (r m n : Nat) : cTn r (m + n) = cTn (cTn r m) n := by
  induction m generalizing r with
  | zero => rw [Nat.zero_add]; rfl
  | succ m ih => rw [Nat.succ_add]; exact ih _
theorem split16 (r : Nat) : r = (2 ^ 4 * (r / 16)) ^^^ (r % 16) := by
  apply Nat.eq_of_testBit_eq
  intro i
  rw [Nat.testBit_xor, Nat.testBit_two_pow_mul, show r % 16 = r % 2 ^ 4 from rfl, Nat.testBit_mod_two_pow, show r / 16 = r >>> 4 by simp [Nat.shiftRight_eq_div_pow], Nat.testBit_shiftRight]
  by_cases h : 4 ≤ i
  · simp [h, show ¬ i < 4 by omega, show 4 + (i - 4) = i by omega]
  · simp [h, show i < 4 by omega]
theorem cTn4 (r : Nat) : cTn r 4 = (r / 16) ^^^ cTn (r % 16) 4 := by
  have h : cTn r 4 = cTn ((2 ^ 4 * (r / 16)) ^^^ (r % 16)) 4 := congrArg (cTn · 4) (split16 r)
  rw [h, cTn_xor, cTn_shift]
theorem cRun_bits_app (r : Nat) (xs ys : List Int) : cRun r (bitsZ (xs ++ ys)) = cRun (cRun r (bitsZ xs)) (bitsZ ys) := by
  rw [← cRun_app]
  congr 1
  unfold bitsZ
  have hl : 8 * (xs ++ ys).length = 8 * xs.length + 8 * ys.length := by rw [List.length_append]; omega
  unfold bitsTo
  rw [hl, List.range_add, List.map_append, List.map_map]
  have e1 : ∀ i ∈ List.range (8 * xs.length), bAt (xs ++ ys) i = bAt xs i := by
    intro i hi
    have := List.mem_range.1 hi
    unfold bAt
    rw [List.getD_eq_getElem?_getD, List.getD_eq_getElem?_getD, List.getElem?_append_left (by omega)]
  have e2 : ∀ i ∈ List.range (8 * ys.length), (bAt (xs ++ ys) ∘ fun x => 8 * xs.length + x) i = bAt ys i := by
    intro i hi
    simp only [Function.comp]
    unfold bAt
    rw [List.getD_eq_getElem?_getD, List.getD_eq_getElem?_getD, List.getElem?_append_right (by omega), show (8 * xs.length + i) / 8 - xs.length = i / 8 by omega, show (8 * xs.length + i) % 8 = i % 8 by omega]
  rw [List.map_congr_left e1, List.map_congr_left e2]
theorem crcN_lt (zs : List Int) : crcN zs < 4294967296 := by unfold crcN; omega
theorem crcN_not (zs : List Int) : 4294967295 - crcN zs = cRun 4294967295 (bitsZ zs) := by
  have := cRun_lt (r := 4294967295) (bitsZ zs) (by omega)
  unfold crcN; omega
theorem crcN_more (xs ys : List Int) : 4294967295 - cRun (4294967295 - crcN xs) (bitsZ ys) = crcN (xs ++ ys) := by
  rw [crcN_not, crcN, cRun_bits_app]

/-- bits turned round -/
def turnB (bit : Int) (m : Nat) (len : Nat) (n : Nat) (j : Nat) : Bool := decide (0 ≤ bit ∧ bit ≤ (j : Int) ∧ (j : Int) < bit + n) && m.testBit ((j : Int) - bit).toNat
def turnZ (zs : List Int) (bit : Int) (m : Nat) : Nat → List Int
  | 0 => zs
  | i + 1 => if m / 2 ^ i % 2 = 1 ∧ 0 ≤ bit ∧ (bit + i) / 8 < zs.length then (turnZ zs bit m i).set ((bit + i) / 8).toNat ((((turnZ zs bit m i).getD ((bit + i) / 8).toNat 0).toNat ^^^ 2 ^ ((bit + i) % 8).toNat : Nat) : Int) else turnZ zs bit m i
theorem turnZ_length (zs : List Int) (bit : Int) (m i : Nat) : (turnZ zs bit m i).length = zs.length := by
  induction i with
  | zero => rfl
  | succ i ih => rw [turnZ]; split <;> simp [ih]
theorem byte_set (zs : List Int) (k : Nat) (h : k < zs.length) (v : Nat) (j : Nat) : bAt (zs.set k (v : Int)) j = if j / 8 = k then v.testBit (j % 8) else bAt zs j := by
  unfold bAt
  rw [List.getD_eq_getElem?_getD, List.getElem?_set]
  by_cases e : k = j / 8
  · subst e; simp [h]
  · rw [if_neg e, if_neg (fun h => e h.symm), ← List.getD_eq_getElem?_getD]
theorem turnZ_bit (zs : List Int) (bit : Int) (m i : Nat) (j : Nat) (hj : j < 8 * zs.length) : bAt (turnZ zs bit m i) j = xor (bAt zs j) (turnB bit m zs.length i j) := by
  induction i with
  | zero =>
    have : turnB bit m zs.length 0 j = false := by unfold turnB; rw [decide_eq_false (by omega)]; rfl
    rw [this, Bool.xor_false]; rfl
  | succ i ih =>
    rw [turnZ]
    by_cases hc : m / 2 ^ i % 2 = 1 ∧ 0 ≤ bit ∧ (bit + i) / 8 < zs.length
    · rw [if_pos hc]
      obtain ⟨hm, hb, hl⟩ := hc
      rw [byte_set _ _ (by rw [turnZ_length]; omega)]
      obtain ⟨b, rfl⟩ : ∃ b : Nat, bit = (b : Int) := ⟨bit.toNat, by omega⟩
      have eq : (((b : Int) + (i : Int)) / 8).toNat = (b + i) / 8 := by omega
      have er : (((b : Int) + (i : Int)) % 8).toNat = (b + i) % 8 := by omega
      rw [eq, er]
      have htm : m.testBit i = true := by rw [Nat.testBit_eq_decide_div_mod_eq]; simpa using hm
      by_cases hq : j / 8 = (b + i) / 8
      · rw [if_pos hq, Nat.testBit_xor, Nat.testBit_two_pow, ← hq]
        have h1 : ((turnZ zs (b : Int) m i).getD (j / 8) 0).toNat.testBit (j % 8) = bAt (turnZ zs (b : Int) m i) j := rfl
        rw [h1, ih]
        by_cases hr : (b + i) % 8 = j % 8
        · have hji : j = b + i := by omega
          subst hji
          have e1 : turnB (b : Int) m zs.length i (b + i) = false := by unfold turnB; rw [decide_eq_false (by omega)]; rfl
          have e2 : turnB (b : Int) m zs.length (i + 1) (b + i) = true := by
            unfold turnB
            rw [decide_eq_true (by omega), show (((b + i : Nat) : Int) - (b : Int)).toNat = i by omega, htm]; rfl
          rw [e1, e2]; simp
        · have e2 : turnB (b : Int) m zs.length (i + 1) j = turnB (b : Int) m zs.length i j := by
            unfold turnB
            congr 1
            apply decide_eq_decide.2
            omega
          rw [e2]; simp [hr]
      · rw [if_neg hq, ih]
        have e2 : turnB (b : Int) m zs.length (i + 1) j = turnB (b : Int) m zs.length i j := by
          unfold turnB
          congr 1
          apply decide_eq_decide.2
          omega
        rw [e2]
    · rw [if_neg hc, ih]
      congr 1
      by_cases hb : 0 ≤ bit
      · obtain ⟨b, rfl⟩ : ∃ b : Nat, bit = (b : Int) := ⟨bit.toNat, by omega⟩
        by_cases hji : j = b + i
        · subst hji
          have hm : ¬ m / 2 ^ i % 2 = 1 := fun hm => hc ⟨hm, hb, by omega⟩
          have htm : m.testBit i = false := by rw [Nat.testBit_eq_decide_div_mod_eq]; simpa using hm
          unfold turnB
          rw [show (((b + i : Nat) : Int) - (b : Int)).toNat = i by omega, htm, Bool.and_false, Bool.and_false]
        · unfold turnB
          congr 1
          apply decide_eq_decide.2
          omega
      · unfold turnB
        rw [decide_eq_false (by omega), decide_eq_false (by omega)]
theorem turnZ_byte (zs : List Int) (bit : Int) (m i : Nat) (h : ∀ j, 0 ≤ zs.getD j 0 ∧ zs.getD j 0 < 256) : ∀ j, 0 ≤ (turnZ zs bit m i).getD j 0 ∧ (turnZ zs bit m i).getD j 0 < 256 := by
  induction i with
  | zero => exact h
  | succ i ih =>
    rw [turnZ]
    split
    · intro j
      rw [List.getD_eq_getElem?_getD, List.getElem?_set]
      split
      · split
        · have h1 := ih (((bit + i) / 8).toNat)
          have h2 : ((turnZ zs bit m i).getD ((bit + i) / 8).toNat 0).toNat ^^^ 2 ^ ((bit + i) % 8).toNat < 2 ^ 8 := Nat.xor_lt_two_pow (by omega) (Nat.pow_lt_pow_right (by omega) (by omega))
          simp only [Option.getD_some]
          omega
        · simp
      · rw [← List.getD_eq_getElem?_getD]; exact ih j
    · exact ih
/-- bytes of the same bits are the same -/
theorem same_of_bits {xs ys : List Int} (hl : xs.length = ys.length) (hx : ∀ j, 0 ≤ xs.getD j 0 ∧ xs.getD j 0 < 256) (hy : ∀ j, 0 ≤ ys.getD j 0 ∧ ys.getD j 0 < 256) (h : ∀ j, j < 8 * xs.length → bAt xs j = bAt ys j) : xs = ys := by
  apply List.ext_getElem hl
  intro k h1 h2
  have e : (xs.getD k 0).toNat = (ys.getD k 0).toNat := by
    apply Nat.eq_of_testBit_eq
    intro i
    by_cases hi : i < 8
    · have := h (8 * k + i) (by omega)
      unfold bAt at this
      rw [show (8 * k + i) / 8 = k by omega, show (8 * k + i) % 8 = i by omega] at this
      exact this
    · have hxk := hx k
      have hyk := hy k
      have p : 256 ≤ 2 ^ i := Nat.pow_le_pow_right (n := 2) (i := 8) (by omega) (by omega)
      rw [Nat.testBit_lt_two_pow (by omega), Nat.testBit_lt_two_pow (by omega)]
  have hxk := hx k
  have hyk := hy k
  have e1 : xs.getD k 0 = xs[k] := by simp [List.getD_eq_getElem?_getD, h1]
  have e2 : ys.getD k 0 = ys[k] := by simp [List.getD_eq_getElem?_getD, h2]
  omega
/-- A BURST IS SEEN: bytes turned round have another sum, but where nothing has turned. -/
theorem turn_seen (zs : List Int) (bit : Int) (m : Nat) (hz : ∀ j, 0 ≤ zs.getD j 0 ∧ zs.getD j 0 < 256) : crcN (turnZ zs bit m 32) = crcN zs ↔ turnZ zs bit m 32 = zs := by
  refine ⟨fun h => ?_, fun h => by rw [h]⟩
  have hL := turnZ_length zs bit m 32
  have hr : cRun 4294967295 (bitsZ (turnZ zs bit m 32)) = cRun 4294967295 (bitsZ zs) := by rw [← crcN_not, ← crcN_not, h]
  have hD : bitsZ (turnZ zs bit m 32) = List.zipWith xor (bitsZ zs) ((List.range (8 * zs.length)).map (turnB bit m zs.length 32)) := by
    apply List.ext_getElem
    · simp [bitsZ, bitsTo, hL]
    · intro j h1 h2
      have hj : j < 8 * zs.length := by simpa [bitsZ, bitsTo, hL] using h1
      simp only [bitsZ, bitsTo, List.getElem_map, List.getElem_range, List.getElem_zipWith]
      exact turnZ_bit zs bit m 32 j hj
  have hx := cRun_xor 4294967295 0 (bitsZ zs) ((List.range (8 * zs.length)).map (turnB bit m zs.length 32)) (by simp [bitsZ, bitsTo])
  rw [Nat.xor_zero, ← hD, hr] at hx
  have h0 : cRun 0 ((List.range (8 * zs.length)).map (turnB bit m zs.length 32)) = 0 := by
    have h1 := congrArg (cRun 4294967295 (bitsZ zs) ^^^ ·) hx
    simp only [Nat.xor_self] at h1
    rw [← Nat.xor_assoc, Nat.xor_self, Nat.zero_xor] at h1
    exact h1.symm
  have hall : ∀ j, j < 8 * zs.length → turnB bit m zs.length 32 j = false := by
    by_cases hb : 0 ≤ bit
    · obtain ⟨b, rfl⟩ : ∃ b : Nat, bit = (b : Int) := ⟨bit.toNat, by omega⟩
      by_cases hbn : b < 8 * zs.length
      · obtain ⟨n, hn⟩ : ∃ n, 8 * zs.length = n := ⟨_, rfl⟩
        rw [hn] at h0 hbn ⊢
        obtain ⟨c, hc⟩ : ∃ c, min 32 (n - b) = c := ⟨_, rfl⟩
        have hs : (List.range n).map (turnB (b : Int) m zs.length 32) = List.replicate b false ++ (List.range c).map (fun i => turnB (b : Int) m zs.length 32 (b + i)) ++ List.replicate (n - b - c) false := by
          apply List.ext_getElem
          · simp; omega
          · intro j h1 h2
            have hj : j < n := by simpa using h1
            rw [List.getElem_map, List.getElem_range]
            rw [List.getElem_append]
            split
            · rw [List.getElem_append]
              split
              · rename_i hjb
                have hjb : j < b := by simpa using hjb
                rw [List.getElem_replicate]
                unfold turnB
                rw [decide_eq_false (by omega)]; rfl
              · rename_i hjb
                have hjb : ¬ j < b := by simpa using hjb
                rw [List.getElem_map, List.getElem_range]
                congr 1
                simp; omega
            · rename_i hjb
              have hjb : ¬ j < b + c := by simpa using hjb
              rw [List.getElem_replicate]
              unfold turnB
              rw [decide_eq_false (by omega)]; rfl
        by_cases ht : true ∈ (List.range c).map (fun i => turnB (b : Int) m zs.length 32 (b + i))
        · rw [hs] at h0
          exact absurd h0 (burst_seen _ _ _ (by simp; omega) ht)
        · intro j hj
          by_cases hw : b ≤ j ∧ j < b + c
          · cases e : turnB (b : Int) m zs.length 32 j
            · rfl
            · exact absurd (List.mem_map.2 ⟨j - b, List.mem_range.2 (by omega), by rw [show b + (j - b) = j by omega]; exact e⟩) ht
          · unfold turnB
            rw [decide_eq_false (by omega)]; rfl
      · intro j hj
        unfold turnB
        rw [decide_eq_false (by omega)]; rfl
    · intro j hj
      unfold turnB
      rw [decide_eq_false (by omega)]; rfl
  refine same_of_bits hL (turnZ_byte zs bit m 32 hz) hz fun j hj => ?_
  rw [hL] at hj
  rw [turnZ_bit zs bit m 32 j hj, hall j hj, Bool.xor_false]
end Go.Proofs.Ytjdigncieoaglaa

namespace Go.Proofs.Ytjdigncieoaglaa
set_option linter.unusedVariables false
open Go.RowKit Go.Lib


theorem same_len (p q : Option Addr) (n m c d : Nat) (w : World) (hn : n ≤ maxLen) (hm : m ≤ maxLen) (hne : n ≠ m) :
    Calls Try.prog 8 #[.slice p n c, .slice q m d] w fun e w' => e = .returned (.bool false) ∧ w = w' := by
  unfold maxLen at hn hm
  have e1 : (((n : Nat) : Int) != (m : Int)) = true := by rw [bne_iff_ne]; omega
  go_enter Try.func8, Try.ntmps8
  go_wp2
  go_ret
  exact ⟨rfl, rfl⟩

theorem same_walk (b off b2 off2 n c d : Nat) (xs ys : List Int) (w : World) (hn : n ≤ maxLen) (hxl : n = xs.length) (hyl : n = ys.length)
    (hx : ∀ j, j < n → w.cell? ⟨b, off + j, none⟩ = some (.int .u8 (xs.getD j 0))) (hy : ∀ j, j < n → w.cell? ⟨b2, off2 + j, none⟩ = some (.int .u8 (ys.getD j 0))) :
    Calls Try.prog 8 #[.slice (some ⟨b, off, none⟩) n c, .slice (some ⟨b2, off2, none⟩) n d] w fun e w' => e = .returned (.bool (decide (xs = ys))) ∧ ∃ q, w' = w.drewN q := by
  unfold maxLen at hn
  have HX := Lib.hid hxl
  have HY := Lib.hid hyl
  clear hxl hyl
  have e1 : (((n : Nat) : Int) != (n : Int)) = false := by simp
  go_enter Try.func8, Try.ntmps8
  go_wp2
  go_loopw [5] (fun i wr => ∃ k : Nat, k ≤ n ∧ i = .int .i64 k ∧ xs.take k = ys.take k ∧ ∃ q, wr = w.drewN q) (fun i _ => n - (intOf i).toNat)
  case atStart => exact ⟨0, Nat.zero_le _, rfl, rfl, 0, rfl⟩
  case round =>
    obtain ⟨k, hk, rfl, hpre, q, rfl⟩ := hrel
    by_cases hlt : k < n
    · have h1 := hx k hlt
      have h2 := hy k hlt
      go_wp2
      go_quiet (fail)
      go_wp2
      · have hne : (xs[k]?.getD 0 != ys[k]?.getD 0) = true := by assumption
        go_ret
        refine ⟨ret_bool ?_, _, World.drewN_drewN _ _ _⟩
        have : xs ≠ ys := fun e => by rw [e] at hne; simp at hne
        simpa using this
      · have heq : (xs[k]?.getD 0 != ys[k]?.getD 0) = false := by assumption
        refine ⟨⟨k + 1, by omega, by go_num, ?_, _, rfl⟩, by simp [intOf]; omega⟩
        exact take_step (by rw [← HX.out]; exact hlt) (by rw [← HY.out]; exact hlt) hpre (by simpa using heq)
    · have e : k = n := by omega
      subst e
      go_wp2
      go_ret
      have e2 : xs = ys := by rw [HX.out, List.take_length] at hpre; rw [hpre, ← HX.out, HY.out, List.take_length]
      exact ⟨ret_bool (by simpa using e2), q, rfl⟩

theorem same_any (p q : Option Addr) (n m c d : Nat) (xs ys : List Int) (w : World) (hn : n ≤ maxLen) (hm : m ≤ maxLen) (hx : Bs w p n xs) (hy : Bs w q m ys) :
    Calls Try.prog 8 #[.slice p n c, .slice q m d] w fun e w' => e = .returned (.bool (decide (xs = ys))) ∧ ∃ q, w' = w.drewN q := by
  obtain ⟨x1, _, x3⟩ := hx
  obtain ⟨y1, _, y3⟩ := hy
  by_cases hne : n = m
  · subst hne
    by_cases h0 : n = 0
    · subst h0
      obtain rfl : xs = [] := List.length_eq_zero_iff.1 x1
      obtain rfl : ys = [] := List.length_eq_zero_iff.1 y1
      have e0 : decide (([] : List Int) = []) = true := by simp
      rw [e0]
      clear hn hm x1 y1 x3 y3 e0
      have e1 : (((0 : Nat) : Int) != ((0 : Nat) : Int)) = false := by simp
      go_enter Try.func8, Try.ntmps8
      go_wp2
      go_loopw [5] (fun i wr => i = .int .i64 0 ∧ w = wr) (fun i _ => 0)
      case atStart => exact ⟨rfl, rfl⟩
      case round =>
        obtain ⟨rfl, rfl⟩ := hrel
        go_wp2
        go_ret
        exact ⟨rfl, 0, rfl⟩
    · rcases x3 with h1 | ⟨b, off, rfl, hc⟩
      · exact absurd h1 h0
      rcases y3 with h1 | ⟨b2, off2, rfl, hd⟩
      · exact absurd h1 h0
      exact same_walk b off b2 off2 n c d xs ys w hn x1.symm y1.symm hc hd
  · have e0 : decide (xs = ys) = false := by
      simp only [decide_eq_false_iff_not]
      intro e; apply hne; rw [← x1, ← y1, e]
    rw [e0]
    exact (same_len p q n m c d w hn hm hne).mono fun e w' ⟨h1, h2⟩ => ⟨h1, 0, h2.symm⟩
end Go.Proofs.Ytjdigncieoaglaa
