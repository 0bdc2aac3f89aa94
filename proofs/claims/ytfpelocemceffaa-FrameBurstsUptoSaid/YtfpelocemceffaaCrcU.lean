/- The walk of the reference's Turn. -/
import Derived.Test.YtfpelocemceffaaCrcW2
import Derived.Test.YtfpelocemceffaaReg
namespace Go.Proofs.Ytfpelocemceffaa
set_option linter.unusedVariables false
open Go.RowKit Go.Lib

theorem xor_u8 (x y : Nat) (hx : x < 256) (hy : y < 256) : bits BinOp.xor IntKind.u8 (x : Int) (y : Int) = ((x ^^^ y : Nat) : Int) := by
  have key : ∀ x y : Fin 256, bits BinOp.xor IntKind.u8 ((x.val : Nat) : Int) ((y.val : Nat) : Int) = ((x.val ^^^ y.val : Nat) : Int) := by decide +kernel
  exact key ⟨x, hx⟩ ⟨y, hy⟩
/-- whether bit i is turned round -/
def turnsB (bit : Int) (m len i : Nat) : Prop := m / 2 ^ i % 2 = 1 ∧ 0 ≤ bit ∧ (bit + i) / 8 < len
theorem turnZ_yes {zs : List Int} {bit : Int} {m len i : Nat} (hl : zs.length = len) (h : m / 2 ^ i % 2 = 1) (h0 : 0 ≤ bit) (h1 : (bit + i) / 8 < len) :
    turnZ zs bit m (i + 1) = (turnZ zs bit m i).set ((bit + i) / 8).toNat ((((turnZ zs bit m i).getD ((bit + i) / 8).toNat 0).toNat ^^^ 2 ^ ((bit + i) % 8).toNat : Nat) : Int) := by
  rw [turnZ, if_pos ⟨h, h0, by rw [hl]; exact h1⟩]
theorem turnZ_no {zs : List Int} {bit : Int} {m len i : Nat} (hl : zs.length = len) (h : ¬ (m / 2 ^ i % 2 = 1 ∧ 0 ≤ bit ∧ (bit + i) / 8 < len)) : turnZ zs bit m (i + 1) = turnZ zs bit m i := by
  rw [turnZ, if_neg (by rw [hl]; exact h)]

theorem pow_bit (m k : Nat) : ((m : Int) / 2 ^ k).tmod 2 = ((m / 2 ^ k % 2 : Nat) : Int) := by
  have e : (m : Int) / 2 ^ k = ((m / 2 ^ k : Nat) : Int) := by rw [Int.natCast_ediv, Int.natCast_pow]; rfl
  rw [e, Int.tmod_eq_emod_of_nonneg (Int.natCast_nonneg _)]
  rfl
theorem pow_u8 (c r : Nat) (hc : c < 256) (hr : r < 8) : bits BinOp.xor IntKind.u8 (c : Int) (2 ^ r % 256) = ((c ^^^ 2 ^ r : Nat) : Int) := by
  have h1 : 2 ^ r < 2 ^ 8 := Nat.pow_lt_pow_right (by omega) hr
  have e : (2 : Int) ^ r % 256 = ((2 ^ r : Nat) : Int) := by
    have h2 : ((2 ^ r : Nat) : Int) = 2 ^ r := by rw [Int.natCast_pow]; rfl
    rw [← h2]
    generalize 2 ^ r = P at h1
    omega
  rw [e]
  exact xor_u8 _ _ hc h1
theorem xor_lt8 {c r : Nat} (hc : c < 256) (hr : r < 8) : c ^^^ 2 ^ r < 256 := Nat.xor_lt_two_pow (n := 8) hc (Nat.pow_lt_pow_right (by omega) hr)

set_option maxRecDepth 100000 in
set_option maxHeartbeats 2000000 in
theorem cturn_any (p : Option Addr) (len cap : Nat) (zs : List Int) (bit : Int) (m : Nat) (w : World) (h : Bs w p len zs) (hpc : p = none → cap = 0) (hlen : len ≤ 2097152) (hb0 : -9223372036854775808 ≤ bit) (hb1 : bit ≤ 9223372036854775807) (hm : m < 4294967296) :
    Calls Try.prog 15 #[.slice p len cap, .int .i64 bit, .int .u32 (m : Int)] w fun e w' => ∃ v, e = .returned v ∧ Ob w' w.heap.size 5 v (turnZ zs bit m 32) ∧ Below w.heap.size w w' := by
  have H := Lib.hid h
  have HPC := Lib.hid hpc
  have HL := Lib.hid h.len
  have HON := Lib.hid (Ob.nil w w.heap.size 5)
  have HBY0 : Hid (([] : List Int).length + len ≤ 140737488355328) := Lib.hid (by simp; omega)
  clear h hpc
  go_enter Try.func15, Try.ntmps15
  go_wp2_with (refine wpList_append_bytes rfl (.const (.slice none 0 0)) (.tmp 9) 22 5 rfl Try.underlying22 info8 w.heap.size _ [] rfl HON.out p len cap zs rfl H.out HPC.out HBY0.out (Nat.le_refl _) ?_; intro v1 w1 hob1 hg1; rw [List.nil_append] at hob1; have HO1 := Lib.hid hob1; have HB1 := Lib.hid (below_new (Below.refl w.heap.size w) HON.out hg1 (Nat.le_refl _)); clear hob1 hg1)
  obtain ⟨p1, c1, hv1, hc1, hc1m, _, _⟩ := HO1.out.open
  rw [HL.out] at hv1 hc1
  subst hv1
  go_loopw [8] (fun i wr => ∃ k : Nat, k ≤ 32 ∧ i = .int .i64 (k : Int) ∧ Hid (Ob wr w.heap.size 5 (.slice p1 len c1) (turnZ zs bit m k)) ∧ Hid (Below w.heap.size w wr)) (fun i _ => 32 - (intOf i).toNat)
  case atStart => exact ⟨0, by omega, rfl, HO1, HB1⟩
  case round =>
    obtain ⟨k, hk, rfl, ho, hb⟩ := hrel
    by_cases hlt : k < 32
    · by_cases hyes : m / 2 ^ k % 2 = 1 ∧ 0 ≤ bit ∧ (bit + k) / 8 < len
      · obtain ⟨hmk, h0, hin⟩ := hyes
        have HN := Lib.hid (turnZ_yes (m := m) HL.out hmk h0 hin)
        have HBY := Lib.hid (ho.out.1)
        obtain ⟨b, rfl⟩ : ∃ b : Nat, bit = (b : Int) := ⟨bit.toNat, by omega⟩
        have e1 : (((b : Int) + (k : Int)) / 8).toNat = (b + k) / 8 := by omega
        have e2 : (((b : Int) + (k : Int)) % 8).toNat = (b + k) % 8 := by omega
        rw [e1, e2] at HN
        have hq : ((b : Int) + (k : Int)) / 8 = (((b + k) / 8 : Nat) : Int) := by omega
        have hr : ((b : Int) + (k : Int)) % 8 = (((b + k) % 8 : Nat) : Int) := by omega
        have hj : (b + k) / 8 < len := by omega
        have hr8 : (b + k) % 8 < 8 := by omega
        have hbl : (b : Int) / 8 < (len : Int) := by omega
        generalize (b + k) / 8 = j at *
        generalize (b + k) % 8 = r at *
        have hmk2 : ((m : Int) / 2 ^ k).tmod 2 = 1 := by
          rw [pow_bit, hmk]; rfl
        obtain ⟨g, rfl⟩ : ∃ g, p1 = some ⟨g, 0, none⟩ := by
          rcases ho.out.2.2 with ⟨hv, h0⟩ | ⟨g, cap', cur, hv, _⟩
          · simp only [Value.slice.injEq] at hv; omega
          · simp only [Value.slice.injEq] at hv; exact ⟨g, hv.1⟩
        obtain ⟨hcell, hfz⟩ := ho.out.cell j hj
        obtain ⟨y, hy⟩ : ∃ y, (turnZ zs (b : Int) m k).getD j 0 = y := ⟨_, rfl⟩
        have hyb := HBY.out j
        rw [hy] at hyb hcell HN
        obtain ⟨c, rfl⟩ : ∃ c : Nat, y = (c : Int) := ⟨y.toNat, by omega⟩
        rw [Int.toNat_natCast] at HN
        have HP := Lib.hid (pow_u8 c r (by omega) hr8)
        have HLT := Lib.hid (xor_lt8 (c := c) (r := r) (by omega) hr8)
        clear hy e1 e2
        go_wp2
        refine ⟨⟨k + 1, by omega, by go_num, ?_, ?_⟩, by simp [intOf] <;> omega⟩
        · have h := ho.out.set j hj ((c ^^^ 2 ^ r : Nat) : Int) (by omega) (by have := HLT.out; omega)
          rw [HP.out, HN.out]
          exact Lib.hid h
        · exact Lib.hid (hb.out.setCell (p := ⟨g, j, none⟩) ho.out.block_own.1 _)
      · have HN := Lib.hid (turnZ_no (m := m) HL.out hyes)
        go_wp2
        · exfalso; rename_i hh _ _ _ _; have hm1 := pow_bit m k; exact hyes ⟨by generalize m / 2 ^ k % 2 = M at *; have h1 : ((m : Int) / 2 ^ k).tmod 2 = 1 := (by assumption); omega, (by assumption), (by assumption)⟩
        all_goals exact ⟨⟨k + 1, by omega, by go_num, by rw [HN.out]; exact ho, hb⟩, by simp [intOf] <;> omega⟩
    · obtain rfl : k = 32 := by omega
      go_wp2
      go_ret
      exact ⟨_, rfl, ho.out, hb.out⟩
end Go.Proofs.Ytfpelocemceffaa
