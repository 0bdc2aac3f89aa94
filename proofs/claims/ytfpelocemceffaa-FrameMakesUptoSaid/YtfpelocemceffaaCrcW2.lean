/- Walks of package crc: More and Sum. -/
import Derived.Test.YtfpelocemceffaaCrcW1
import Derived.Lib.SlBytesConst
namespace Go.Proofs.Ytfpelocemceffaa
set_option linter.unusedVariables false
open Go.RowKit Go.Lib

theorem not_u32 (x : Nat) (h : x < 4294967296) : bits BinOp.xor IntKind.u32 IntKind.u32.max (x : Int) = ((4294967295 - x : Nat) : Int) := by
  have e1 : BitVec.ofInt 32 IntKind.u32.max = BitVec.allOnes 32 := by decide
  show IntKind.u32.wrap ((BitVec.ofInt 32 IntKind.u32.max ^^^ BitVec.ofInt 32 (x : Int)).toNat : Int) = _
  rw [e1, BitVec.allOnes_xor, BitVec.toNat_not, ofInt_u32 x h, IntKind.wrap_u32']
  omega
theorem crcReg_lt {r : Nat} (zs : List Int) (k : Nat) (h : r < 4294967296) : crcReg r zs k < 4294967296 := cRun_lt _ h
/-- what More answers -/
def moreN (s : Nat) (zs : List Int) : Nat := 4294967295 - cRun (4294967295 - s) (bitsZ zs)
theorem moreN_lt (s : Nat) (zs : List Int) : moreN s zs < 4294967296 := by unfold moreN; omega
theorem moreN_zero (zs : List Int) : moreN 0 zs = crcN zs := rfl
theorem moreN_app (xs ys : List Int) : moreN (crcN xs) ys = crcN (xs ++ ys) := crcN_more xs ys
theorem moreN_nil (xs : List Int) : moreN (crcN xs) [] = crcN xs := by rw [moreN_app, List.append_nil]
theorem nib (x m : Nat) (hx : x < 4294967296) : bits BinOp.xor IntKind.u32 ((x : Int) / 16) ((cTn (x % 16) 4 : Nat) : Int) = ((cTn x 4 : Nat) : Int) := by
  rw [cTn4 x, show (x : Int) / 16 = ((x / 16 : Nat) : Int) by omega]
  exact u32_xor_nat _ _ (by omega) (cTn_lt 4 (by omega))

set_option maxRecDepth 100000 in
set_option maxHeartbeats 1000000 in
theorem cmore_any (s : Nat) (p : Option Addr) (len cap : Nat) (zs : List Int) (w : World) (h : Bs w p len zs) (hs : s < 4294967296) (hlen : len ≤ maxLen) :
    Calls Try.prog 32 #[.int .u32 (s : Int), .slice p len cap] w fun e w' => e = .returned (.int .u32 ((moreN s zs : Nat) : Int)) ∧ Below w.heap.size w w' := by
  unfold maxLen at hlen
  have H := Lib.hid h
  have HL := Lib.hid h.len
  have hn := not_u32 s hs
  obtain ⟨r0, hr0⟩ : ∃ r0, 4294967295 - s = r0 := ⟨_, rfl⟩
  have hr0b : r0 < 4294967296 := by omega
  have HM : Hid (moreN s zs = 4294967295 - crcReg r0 zs len) := Lib.hid (by rw [← h.len, ← hr0]; rfl)
  rw [hr0] at hn
  clear hr0 h
  have HCR : Hid (∀ k, crcReg r0 zs k < 4294967296) := Lib.hid fun k => crcReg_lt zs k hr0b
  have HC0 : Hid (crcReg r0 zs 0 = r0) := Lib.hid rfl
  go_enter Try.func32, Try.ntmps32
  go_wp2_with fail
  refine (ctable_any _).mono ?_
  rintro e w1 ⟨rfl, hb1⟩
  have HB1 := Lib.hid hb1
  have HS1 : Hid ((Try.prog.info? 70).map (·.size) = some (rcs .u32 (tab4 16)).size) := Lib.hid (by rw [rcs_size, tab4_length]; exact size16)
  have HS2 : Hid ((rcs .u32 (List.replicate 16 0)).size = (rcs .u32 (tab4 16)).size) := Lib.hid (by rw [rcs_size, rcs_size, tab4_length, List.length_replicate])
  clear hb1
  go_wp2_with (refine wpList_store_row rfl 70 _ _ rfl w1.heap.size _ rfl rfl 70 _ (heap_alloc_new _ _) HS1.out HS2.out (rcs_one _) ?_; generalize hw2 : World.setRow _ _ _ = w2; have HT2 : Hid (Rw .u32 w2 w1.heap.size 70 (tab4 16)) := (Lib.hid (by rw [← hw2]; exact setRow_heap _ _ _ _ _ _ (heap_alloc_new _ _))); have HB2 : Hid (Below w.heap.size w w2) := (Lib.hid (by rw [← hw2]; exact below_setRowR (HB1.out.alloc HB1.out.size _) _ _ HB1.out.size)); clear hw2)
  go_loopw [6, 14] (fun x i wr => ∃ k : Nat, k ≤ len ∧ i = .int .i64 (k : Int) ∧ x = .int .u32 ((crcReg r0 zs k : Nat) : Int) ∧ Hid (Rw .u32 wr w1.heap.size 70 (tab4 16)) ∧ Hid (Below w.heap.size w wr)) (fun _ i _ => len - (intOf i).toNat)
  case atStart => exact ⟨0, by omega, rfl, by rw [HC0.out], HT2, HB2⟩
  case round =>
    obtain ⟨k, hk, rfl, rfl, ht, hb⟩ := hrel
    have hx := HCR.out k
    by_cases hlt : k < len
    · obtain ⟨h1, h2, h3⟩ := (H.out.later hb.out)
      obtain ⟨y, hy⟩ : ∃ y, zs.getD k 0 = y := ⟨_, rfl⟩
      have hyb := h2 k
      rw [hy] at hyb
      rcases h3 with h0 | ⟨b, off, rfl, hc⟩
      · omega
      have hck := hc k hlt
      rw [hy] at hck
      obtain ⟨c, rfl⟩ : ∃ c : Nat, y = (c : Int) := ⟨y.toNat, by omega⟩
      have hcb : c < 256 := by omega
      have HSU : Hid (crcReg r0 zs (k + 1) = cTn (crcReg r0 zs k ^^^ c) 8) := Lib.hid (by
        have h := crcReg_succ r0 zs k (by rw [hy]; omega)
        rw [hy] at h
        exact h)
      generalize crcReg r0 zs k = x at *
      have hxx := u32_xor_nat x c hx (by omega)
      obtain ⟨v, hv⟩ : ∃ v, x ^^^ c = v := ⟨_, rfl⟩
      have hvb : v < 4294967296 := by rw [← hv]; exact Nat.xor_lt_two_pow (n := 32) hx (by omega)
      rw [hv] at hxx HSU
      clear h1 h2 hc hyb hy hv
      go_wp2
      go_loopw [6, 22] (fun x i w3 => ∃ m : Nat, m ≤ 2 ∧ i = .int .i64 (m : Int) ∧ x = .int .u32 ((cTn v (4 * m) : Nat) : Int) ∧ Hid (Rw .u32 w3 w1.heap.size 70 (tab4 16)) ∧ Hid (Below w.heap.size w w3)) (fun _ i _ => 2 - (intOf i).toNat)
      case atStart => exact ⟨0, by omega, rfl, rfl, ht, hb⟩
      case round =>
        clear ht hb
        obtain ⟨m, hm, rfl, rfl, ht, hb⟩ := hrel
        by_cases hlt2 : m < 2
        · have hub : cTn v (4 * m) < 4294967296 := cTn_lt _ hvb
          have HU : Hid (cTn (cTn v (4 * m)) 4 = cTn v (4 * (m + 1))) := Lib.hid (cTn_add v (4 * m) 4).symm
          generalize cTn v (4 * m) = u at *
          have hand : bits BinOp.and IntKind.u32 (u : Int) 15 = ((u % 16 : Nat) : Int) := (u32_and_nat u 15 hub (by omega)).trans (by rw [show (15 : Nat) = 2 ^ 4 - 1 from rfl, Nat.and_two_pow_sub_one_eq_mod])
          have hcl := ht.out.cell (u % 16) (by rw [tab4_length]; omega)
          rw [tab4_get _ (by omega)] at hcl
          have hnb := nib u 0 hub
          obtain ⟨i16, hi16⟩ : ∃ i16, u % 16 = i16 := ⟨_, rfl⟩
          have hi16b : i16 < 16 := by omega
          rw [hi16] at hand hcl hnb
          obtain ⟨tv, htv⟩ : ∃ tv, cTn i16 4 = tv := ⟨_, rfl⟩
          rw [htv] at hcl hnb
          clear hi16 htv
          go_wp2
          exact ⟨⟨m + 1, by omega, by go_num, by rw [HU.out], ht, hb⟩, by simp [intOf] <;> omega⟩
        · obtain rfl : m = 2 := by omega
          have hR : cTn v (4 * 2) = crcReg r0 zs (k + 1) := HSU.out.symm
          rw [hR]
          go_wp2
          exact ⟨⟨k + 1, by omega, by go_num, rfl, ht, hb⟩, by simp [intOf] <;> omega⟩
    · obtain rfl : k = len := by omega
      have hz := not_u32 _ hx
      rw [← HM.out] at hz
      generalize crcReg r0 zs k = x at *
      go_wp2
      go_ret
      exact ⟨rfl, hb.out⟩
theorem csum_any (p : Option Addr) (len cap : Nat) (zs : List Int) (w : World) (h : Bs w p len zs) (hlen : len ≤ maxLen) :
    Calls Try.prog 29 #[.slice p len cap] w fun e w' => e = .returned (.int .u32 ((crcN zs : Nat) : Int)) ∧ Below w.heap.size w w' := by
  have HM := Lib.hid (moreN_zero zs)
  go_enter Try.func29, Try.ntmps29
  go_wp2_with fail
  refine (cmore_any 0 p len cap zs _ h (by omega) hlen).mono ?_
  rintro e w1 ⟨rfl, hb1⟩
  rw [HM.out]
  go_wp2
  go_ret
  exact ⟨rfl, hb1⟩
end Go.Proofs.Ytfpelocemceffaa
