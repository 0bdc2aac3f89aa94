/- Walks of package crc: More and Sum; The walk of the reference's bits; The walk of the reference's Sum; Layer 13, the reference: Make; Layer 13, the program: number, sealed, unsealed, Size, a head's length -/
import Derived.Test.YtjdigncieoaglaaSt3
import Derived.Test.YtjdigncieoaglaaSt9
import Derived.Test.YtjdigncieoaglaaSt20
import Derived.Test.YtjdigncieoaglaaSt22
import Derived.Lib.SlBytesConst
set_option linter.unusedSimpArgs false
set_option linter.unusedVariables false
namespace Go.Proofs.Ytjdigncieoaglaa
set_option linter.unusedVariables false
open Go.RowKit Go.Lib

theorem not_u32 (x : Nat) (h : x < 4294967296) : bits BinOp.xor IntKind.u32 IntKind.u32.max (x : Int) = ((4294967295 - x : Nat) : Int) := by
  have e1 : BitVec.ofInt 32 IntKind.u32.max = BitVec.allOnes 32 := by decide
  show IntKind.u32.wrap ((BitVec.ofInt 32 IntKind.u32.max ^^^ BitVec.ofInt 32 (x : Int)).toNat : Int) = _
  rw [e1, BitVec.allOnes_xor, BitVec.toNat_not, ofInt_u32 x h, IntKind.wrap_u32']
  omega
theorem crcReg_lt {r : Nat} (zs : List Int) (k : Nat) (h : r < 4294967296) : crcReg r zs k < 4294967296 := cRun_lt _ h
/-- what More answers -/
def moreN (s : Nat) (zs : List Int) : Nat := 4294967295 - cRun (4294967295 - s) (bitsZ zs)
theorem moreN_lt (s : Nat) (zs : List Int) : moreN s zs < 4294967296 := by unfold moreN; omega
theorem moreN_zero (zs : List Int) : moreN 0 zs = crcN zs := rfl
theorem moreN_app (xs ys : List Int) : moreN (crcN xs) ys = crcN (xs ++ ys) := crcN_more xs ys
theorem moreN_nil (xs : List Int) : moreN (crcN xs) [] = crcN xs := by rw [moreN_app, List.append_nil]
theorem nib (x m : Nat) (hx : x < 4294967296) : bits BinOp.xor IntKind.u32 ((x : Int) / 16) ((cTn (x % 16) 4 : Nat) : Int) = ((cTn x 4 : Nat) : Int) := by
  rw [cTn4 x, show (x : Int) / 16 = ((x / 16 : Nat) : Int) by omega]
  exact u32_xor_nat _ _ (by omega) (cTn_lt 4 (by omega))

set_option maxRecDepth 100000 in
set_option maxHeartbeats 1000000 in
theorem cmore_any (s : Nat) (p : Option Addr) (len cap : Nat) (zs : List Int) (w : World) (h : Bs w p len zs) (hs : s < 4294967296) (hlen : len ≤ maxLen) :
    Calls Try.prog 81 #[.int .u32 (s : Int), .slice p len cap] w fun e w' => e = .returned (.int .u32 ((moreN s zs : Nat) : Int)) ∧ Below w.heap.size w w' := by
  unfold maxLen at hlen
  have H := Lib.hid h
  have HL := Lib.hid h.len
  have hn := not_u32 s hs
  obtain ⟨r0, hr0⟩ : ∃ r0, 4294967295 - s = r0 := ⟨_, rfl⟩
  have hr0b : r0 < 4294967296 := by omega
  have HM : Hid (moreN s zs = 4294967295 - crcReg r0 zs len) := Lib.hid (by rw [← h.len, ← hr0]; rfl)
  rw [hr0] at hn
  clear hr0 h
  have HCR : Hid (∀ k, crcReg r0 zs k < 4294967296) := Lib.hid fun k => crcReg_lt zs k hr0b
  have HC0 : Hid (crcReg r0 zs 0 = r0) := Lib.hid rfl
  go_enter Try.func81, Try.ntmps81
  go_wp2_with fail
  refine (ctable_any _).mono ?_
  rintro e w1 ⟨rfl, hb1⟩
  have HB1 := Lib.hid hb1
  have HS1 : Hid ((Try.prog.info? 130).map (·.size) = some (rcs .u32 (tab4 16)).size) := Lib.hid (by rw [rcs_size, tab4_length]; exact size16)
  have HS2 : Hid ((rcs .u32 (List.replicate 16 0)).size = (rcs .u32 (tab4 16)).size) := Lib.hid (by rw [rcs_size, rcs_size, tab4_length, List.length_replicate])
  clear hb1
  go_wp2_with (refine wpList_store_row rfl 130 _ _ rfl w1.heap.size _ rfl rfl 130 _ (heap_alloc_new _ _) HS1.out HS2.out (rcs_one _) ?_; generalize hw2 : World.setRow _ _ _ = w2; have HT2 : Hid (Rw .u32 w2 w1.heap.size 130 (tab4 16)) := (Lib.hid (by rw [← hw2]; exact setRow_heap _ _ _ _ _ _ (heap_alloc_new _ _))); have HB2 : Hid (Below w.heap.size w w2) := (Lib.hid (by rw [← hw2]; exact below_setRowR (HB1.out.alloc HB1.out.size _) _ _ HB1.out.size)); clear hw2)
  go_loopw [6, 14] (fun x i wr => ∃ k : Nat, k ≤ len ∧ i = .int .i64 (k : Int) ∧ x = .int .u32 ((crcReg r0 zs k : Nat) : Int) ∧ Hid (Rw .u32 wr w1.heap.size 130 (tab4 16)) ∧ Hid (Below w.heap.size w wr)) (fun _ i _ => len - (intOf i).toNat)
  case atStart => exact ⟨0, by omega, rfl, by rw [HC0.out], HT2, HB2⟩
  case round =>
    obtain ⟨k, hk, rfl, rfl, ht, hb⟩ := hrel
    have hx := HCR.out k
    by_cases hlt : k < len
    · obtain ⟨h1, h2, h3⟩ := (H.out.later hb.out)
      obtain ⟨y, hy⟩ : ∃ y, zs.getD k 0 = y := ⟨_, rfl⟩
      have hyb := h2 k
      rw [hy] at hyb
      rcases h3 with h0 | ⟨b, off, rfl, hc⟩
      · omega
      have hck := hc k hlt
      rw [hy] at hck
      obtain ⟨c, rfl⟩ : ∃ c : Nat, y = (c : Int) := ⟨y.toNat, by omega⟩
      have hcb : c < 256 := by omega
      have HSU : Hid (crcReg r0 zs (k + 1) = cTn (crcReg r0 zs k ^^^ c) 8) := Lib.hid (by
        have h := crcReg_succ r0 zs k (by rw [hy]; omega)
        rw [hy] at h
        exact h)
      generalize crcReg r0 zs k = x at *
      have hxx := u32_xor_nat x c hx (by omega)
      obtain ⟨v, hv⟩ : ∃ v, x ^^^ c = v := ⟨_, rfl⟩
      have hvb : v < 4294967296 := by rw [← hv]; exact Nat.xor_lt_two_pow (n := 32) hx (by omega)
      rw [hv] at hxx HSU
      clear h1 h2 hc hyb hy hv
      go_wp2
      go_loopw [6, 22] (fun x i w3 => ∃ m : Nat, m ≤ 2 ∧ i = .int .i64 (m : Int) ∧ x = .int .u32 ((cTn v (4 * m) : Nat) : Int) ∧ Hid (Rw .u32 w3 w1.heap.size 130 (tab4 16)) ∧ Hid (Below w.heap.size w w3)) (fun _ i _ => 2 - (intOf i).toNat)
      case atStart => exact ⟨0, by omega, rfl, rfl, ht, hb⟩
      case round =>
        clear ht hb
        obtain ⟨m, hm, rfl, rfl, ht, hb⟩ := hrel
        by_cases hlt2 : m < 2
        · have hub : cTn v (4 * m) < 4294967296 := cTn_lt _ hvb
          have HU : Hid (cTn (cTn v (4 * m)) 4 = cTn v (4 * (m + 1))) := Lib.hid (cTn_add v (4 * m) 4).symm
          generalize cTn v (4 * m) = u at *
          have hand : bits BinOp.and IntKind.u32 (u : Int) 15 = ((u % 16 : Nat) : Int) := (u32_and_nat u 15 hub (by omega)).trans (by rw [show (15 : Nat) = 2 ^ 4 - 1 from rfl, Nat.and_two_pow_sub_one_eq_mod])
          have hcl := ht.out.cell (u % 16) (by rw [tab4_length]; omega)
          rw [tab4_get _ (by omega)] at hcl
          have hnb := nib u 0 hub
          obtain ⟨i16, hi16⟩ : ∃ i16, u % 16 = i16 := ⟨_, rfl⟩
          have hi16b : i16 < 16 := by omega
          rw [hi16] at hand hcl hnb
          obtain ⟨tv, htv⟩ : ∃ tv, cTn i16 4 = tv := ⟨_, rfl⟩
          rw [htv] at hcl hnb
          clear hi16 htv
          go_wp2
          exact ⟨⟨m + 1, by omega, by go_num, by rw [HU.out], ht, hb⟩, by simp [intOf] <;> omega⟩
        · obtain rfl : m = 2 := by omega
          have hR : cTn v (4 * 2) = crcReg r0 zs (k + 1) := HSU.out.symm
          rw [hR]
          go_wp2
          exact ⟨⟨k + 1, by omega, by go_num, rfl, ht, hb⟩, by simp [intOf] <;> omega⟩
    · obtain rfl : k = len := by omega
      have hz := not_u32 _ hx
      rw [← HM.out] at hz
      generalize crcReg r0 zs k = x at *
      go_wp2
      go_ret
      exact ⟨rfl, hb.out⟩
theorem csum_any (p : Option Addr) (len cap : Nat) (zs : List Int) (w : World) (h : Bs w p len zs) (hlen : len ≤ maxLen) :
    Calls Try.prog 75 #[.slice p len cap] w fun e w' => e = .returned (.int .u32 ((crcN zs : Nat) : Int)) ∧ Below w.heap.size w w' := by
  have HM := Lib.hid (moreN_zero zs)
  go_enter Try.func75, Try.ntmps75
  go_wp2_with fail
  refine (cmore_any 0 p len cap zs _ h (by omega) hlen).mono ?_
  rintro e w1 ⟨rfl, hb1⟩
  rw [HM.out]
  go_wp2
  go_ret
  exact ⟨rfl, hb1⟩
end Go.Proofs.Ytjdigncieoaglaa

namespace Go.Proofs.Ytjdigncieoaglaa
set_option linter.unusedVariables false
open Go.RowKit Go.Lib

theorem infoB : (Try.prog.info? 4).map (fun i => (i.zero, i.size, i.bytes)) = some (some (.bool false), 1, 1) := by kernel_rfl
theorem bitsTo_succ (zs : List Int) (n : Nat) : bitsTo zs (n + 1) = bitsTo zs n ++ [bAt zs n] := by
  unfold bitsTo; rw [List.range_succ, List.map_append]; rfl
theorem bAt_byte (zs : List Int) (k j : Nat) (hj : j < 8) : bAt zs (8 * k + j) = ((zs.getD k 0).toNat / 2 ^ j % 2 == 1) := by
  unfold bAt
  rw [show (8 * k + j) / 8 = k by omega, show (8 * k + j) % 8 = j by omega, Nat.testBit_eq_decide_div_mod_eq]
  rfl

set_option maxRecDepth 100000 in
set_option maxHeartbeats 1000000 in
theorem rbits_any (p : Option Addr) (len cap : Nat) (zs : List Int) (w : World) (h : Bs w p len zs) (hlen : len ≤ 2097216) :
    Calls Try.prog 45 #[.slice p len cap] w fun e w' => ∃ v, e = .returned v ∧ Ol w' w.heap.size 4 v (bitsZ zs) ∧ Below w.heap.size w w' := by
  have H := Lib.hid h
  have HL := Lib.hid h.len
  have HO0 := Lib.hid (Ol.nil w w.heap.size 4)
  have HB0 := Lib.hid (Below.refl w.heap.size w)
  have HPC1 : Hid (∀ g : Nat, (some (⟨g, 0, none⟩ : Addr)) = none → 1 = 0) := Lib.hid (by simp)
  clear h
  go_enter Try.func45, Try.ntmps45
  go_wp2
  go_loopw [3, 4] (fun v i wr => ∃ (k n : Nat) (p' : Option Addr) (c' : Nat), k ≤ len ∧ i = .int .i64 (k : Int) ∧ v = .slice p' n c' ∧ Hid (n = 8 * k) ∧ Hid (Ol wr w.heap.size 4 (.slice p' n c') (bitsTo zs n)) ∧ Hid (Below w.heap.size w wr)) (fun _ i _ => len - (intOf i).toNat)
  case atStart => exact ⟨0, 0, none, 0, by omega, rfl, rfl, Lib.hid rfl, HO0, HB0⟩
  case round =>
    obtain ⟨k, n, p1, c1, hk, rfl, rfl, hn, ho, hb⟩ := hrel
    by_cases hlt : k < len
    · obtain ⟨h1, h2, h3⟩ := (H.out.later hb.out)
      go_wp2
      go_loopw [3, 5] (fun v i wq => ∃ (j m : Nat) (p' : Option Addr) (c' : Nat), j ≤ 8 ∧ i = .int .i64 (j : Int) ∧ v = .slice p' m c' ∧ Hid (m = 8 * k + j) ∧ Hid (Ol wq w.heap.size 4 (.slice p' m c') (bitsTo zs m)) ∧ Hid (Below w.heap.size w wq)) (fun _ i _ => 8 - (intOf i).toNat)
      case atStart => exact ⟨0, n, p1, c1, by omega, rfl, rfl, Lib.hid hn.out, ho, hb⟩
      case round =>
        clear ho hb h1 h2 h3
        obtain ⟨j, m, p2, c2, hj, rfl, rfl, hm, ho, hb⟩ := hrel
        by_cases hlt2 : j < 8
        · obtain ⟨h1, h2, h3⟩ := (H.out.later hb.out)
          obtain ⟨y, hy⟩ : ∃ y, zs.getD k 0 = y := ⟨_, rfl⟩
          have hyb := h2 k
          rw [hy] at hyb
          rcases h3 with h0 | ⟨b, off, rfl, hc⟩
          · omega
          have hck := hc k hlt
          rw [hy] at hck
          obtain ⟨c, rfl⟩ : ∃ c : Nat, y = (c : Int) := ⟨y.toNat, by omega⟩
          have hbt := bAt_byte zs k j hlt2
          rw [hy, Int.toNat_natCast] at hbt
          clear h1 h2 hc hy
          obtain ⟨V, hV⟩ : ∃ V, (((c : Int) / 2 ^ j).tmod 2 == 1) = V := ⟨_, rfl⟩
          have HV : Hid (bitsTo zs (m + 1) = bitsTo zs m ++ [V]) := Lib.hid (by
            rw [bitsTo_succ, hm.out, hbt, ← hV]
            have e : (c : Int) / 2 ^ j = ((c / 2 ^ j : Nat) : Int) := by rw [Int.natCast_ediv, Int.natCast_pow]; rfl
            rw [e, Int.tmod_eq_emod_of_nonneg (Int.natCast_nonneg _)]
            congr 2
            generalize c / 2 ^ j = M
            rw [Bool.eq_iff_iff, beq_iff_eq, beq_iff_eq]
            omega)
          have HLN : Hid ((bitsTo zs m).length = m) := Lib.hid (bitsTo_length zs m)
          have hN := Lib.hid (nl_one wr V 4)
          have hO := Lib.hid (ho.out.alloc (.cells #[.bool V] 4))
          have hB := Lib.hid (hb.out.alloc hb.out.size (.cells #[.bool V] 4))
          have HML : Hid (m + 1 ≤ 140737488355328) := Lib.hid (by rw [hm.out]; omega)
          have hL1 : Hid ((bitsTo zs m).length + 1 ≤ maxLen) := Lib.hid (by rw [bitsTo_length]; have := HML.out; unfold maxLen; omega)
          have hL2 : Hid (((bitsTo zs m).length + 1) * 1 ≤ 140737488355328) := Lib.hid (by rw [bitsTo_length]; have := HML.out; omega)
          clear hbt hyb
          go_wp2_with (refine wpList_append_bools rfl (.tmp 16) (.tmp 26) 90 4 rfl Try.underlying90 1 infoB w.heap.size _ _ rfl hO.out _ 1 1 [V] rfl hN.out (HPC1.out _) hL1.out hL2.out hB.out.size ?_; intro v4 w4 hob4 hg4; have HO4 := Lib.hid hob4; have HB4 := Lib.hid (below_new_ol hB.out hO.out hg4 hB.out.size); clear hob4 hg4)
          obtain ⟨p5, c5, hv5, _, _, _, _⟩ := HO4.out.open
          have hL5 : (bitsTo zs m ++ [V]).length = m + 1 := by rw [List.length_append, HLN.out]; rfl
          rw [hL5] at hv5
          subst hv5
          have HO5 : Ol w4 w.heap.size 4 (.slice p5 (m + 1) c5) (bitsTo zs (m + 1)) := by rw [HV.out]; exact HO4.out
          refine ⟨?_, by simp [intOf]; omega⟩
          first
            | exact ⟨j + 1, m + 1, p5, c5, by omega, by go_num, rfl, Lib.hid (by have := hm.out; omega), Lib.hid HO5, HB4⟩
            | ((repeat apply Exists.intro); refine ⟨?_, rfl⟩; exact ⟨j + 1, m + 1, p5, c5, by omega, by go_num, rfl, Lib.hid (by have := hm.out; omega), Lib.hid HO5, HB4⟩)
        · obtain rfl : j = 8 := by omega
          go_wp2
          exact ⟨⟨k + 1, m, p2, c2, by omega, by go_num, rfl, Lib.hid (by have := hm.out; omega), ho, hb⟩, by simp [intOf] <;> omega⟩
    · obtain rfl : k = len := by omega
      go_wp2
      go_ret
      exact ⟨_, rfl, by have h := ho.out; rw [hn.out] at h; unfold bitsZ; rw [HL.out, ← hn.out]; rw [← hn.out] at h; exact h, hb.out⟩
end Go.Proofs.Ytjdigncieoaglaa

namespace Go.Proofs.Ytjdigncieoaglaa
set_option linter.unusedVariables false
open Go.RowKit Go.Lib

def flipK (l : List Bool) (k : Nat) : List Bool := List.zipWith xor l (List.replicate k true ++ List.replicate (l.length - k) false)
theorem flipK_length (l : List Bool) (k : Nat) (h : k ≤ l.length) : (flipK l k).length = l.length := by simp [flipK]; omega
theorem flipK_zero (l : List Bool) : flipK l 0 = l := by
  unfold flipK
  rw [List.replicate_zero, List.nil_append, Nat.sub_zero]
  induction l with
  | nil => rfl
  | cons b l ih => simp only [List.length_cons, List.replicate_succ, List.zipWith_cons_cons, ih, Bool.xor_false]
theorem flipK_inv (l : List Bool) : flipK l 32 = inv32 l := rfl
theorem flipK_get (l : List Bool) (k j : Nat) (h : k ≤ l.length) : (flipK l k)[j]? = if j < k then (l[j]?).map (!·) else l[j]? := by
  unfold flipK
  rw [List.getElem?_zipWith]
  by_cases hj : j < l.length
  · rw [List.getElem?_eq_getElem hj, List.getElem?_append]
    by_cases hk : j < k
    · simp [hk]
    · simp [hk, show j - k < l.length - k by omega]
  · rw [List.getElem?_eq_none (by omega)]
    simp
theorem flipK_succ (l : List Bool) (k : Nat) (h : k < l.length) : (flipK l k).set k (!(flipK l k).getD k false) = flipK l (k + 1) := by
  apply List.ext_getElem?
  intro j
  rw [List.getElem?_set, flipK_get l (k + 1) j (by omega), flipK_get l k j (by omega), List.getD_eq_getElem?_getD, flipK_get l k k (by omega), flipK_length l k (by omega)]
  by_cases e : k = j
  · subst e
    simp [h]
  · rw [if_neg e]
    by_cases h1 : j < k
    · rw [if_pos h1, if_pos (by omega)]
    · rw [if_neg h1, if_neg (by omega)]
theorem uRun_snoc (r : Nat) (l : List Bool) (b : Bool) : uRun r (l ++ [b]) = uS (uRun r l) b := by
  induction l generalizing r with
  | nil => rfl
  | cons c l ih => exact ih _
theorem uRun_take (l : List Bool) (k : Nat) (h : k < l.length) : uRun 0 (l.take (k + 1)) = uS (uRun 0 (l.take k)) (l.getD k false) := by
  rw [List.take_succ_eq_append_getElem h, uRun_snoc]
  congr 1
  simp [List.getD_eq_getElem?_getD, h]
theorem uRun_lt {r : Nat} (l : List Bool) (h : r < 4294967296) : uRun r l < 4294967296 := by
  induction l generalizing r with
  | nil => exact h
  | cons c l ih => exact ih (uS_lt _ _)
theorem ol_ptr {w : World} {B n cap : Nat} {p : Option Addr} {e : TypeId} {l : List Bool} (h : Ol w B e (.slice p n cap) l) (hn : 0 < n) : ∃ g, p = some ⟨g, 0, none⟩ := by
  rcases h.2 with ⟨hv, h0⟩ | ⟨g, cap', cur, hv, _⟩
  · simp only [Value.slice.injEq] at hv; omega
  · simp only [Value.slice.injEq] at hv; exact ⟨g, hv.1⟩

theorem pow_bit' (m k : Nat) : ((m : Int) / 2 ^ k).tmod 2 = ((m / 2 ^ k % 2 : Nat) : Int) := by
  have e : (m : Int) / 2 ^ k = ((m / 2 ^ k : Nat) : Int) := by rw [Int.natCast_ediv, Int.natCast_pow]; rfl
  rw [e, Int.tmod_eq_emod_of_nonneg (Int.natCast_nonneg _)]
  rfl

set_option maxRecDepth 100000 in
set_option maxHeartbeats 2000000 in
theorem rcrc_any (p : Option Addr) (len cap : Nat) (zs : List Int) (w : World) (h : Bs w p len zs) (hlen : len ≤ 2097216) :
    Calls Try.prog 32 #[.slice p len cap] w fun e w' => e = .returned (.int .u32 ((crcN zs : Nat) : Int)) ∧ Below w.heap.size w w' := by
  have H := Lib.hid h
  have HFIN : Hid (4294967295 - rev32 (uRun 0 (flipK (bitsZ zs ++ List.replicate 32 false) 32)) = crcN zs) := Lib.hid (by rw [flipK_inv, uRun_inv]; rfl)
  have HPC1 : Hid (∀ g : Nat, (some (⟨g, 0, none⟩ : Addr)) = none → 1 = 0) := Lib.hid (by simp)
  have HZL : Hid ((bitsZ zs).length = 8 * len) := Lib.hid (by unfold bitsZ; rw [bitsTo_length, h.len])
  clear h
  go_enter Try.func32, Try.ntmps32
  go_wp2_with fail
  refine (rbits_any p len cap zs _ H.out hlen).mono ?_
  rintro e w1 ⟨v1, rfl, ho1, hb1⟩
  generalize bitsZ zs = bz at *
  obtain ⟨p1, c1, hv1, _⟩ := ho1.open
  subst hv1
  have HO1 := Lib.hid ho1
  have HB1 := Lib.hid hb1
  obtain ⟨N, hN⟩ : ∃ N, bz.length = N := ⟨_, rfl⟩
  have HN := Lib.hid hN
  have HNB : Hid (N ≤ 16777728) := Lib.hid (by rw [← hN, HZL.out]; omega)
  rw [hN] at HO1
  rw [hN]
  clear ho1 hb1 hN HZL
  go_wp2
  go_loopw [3, 4] (fun v i wr => ∃ (k m : Nat) (p' : Option Addr) (c' : Nat), k ≤ 32 ∧ i = .int .i64 (k : Int) ∧ v = .slice p' m c' ∧ Hid (m = N + k) ∧ Hid (Ol wr w.heap.size 4 (.slice p' m c') (bz ++ List.replicate k false)) ∧ Hid (Below w.heap.size w wr)) (fun _ i _ => 32 - (intOf i).toNat)
  case atStart => exact ⟨0, N, p1, c1, by omega, rfl, rfl, Lib.hid rfl, Lib.hid (by rw [List.replicate_zero, List.append_nil]; exact HO1.out), HB1⟩
  case round =>
    obtain ⟨k, m, p2, c2, hk, rfl, rfl, hm, ho, hb⟩ := hrel
    by_cases hlt : k < 32
    · have HLN : Hid ((bz ++ List.replicate k false).length = m) := Lib.hid (by rw [List.length_append, List.length_replicate, HN.out, hm.out])
      have HAPP : Hid ((bz ++ List.replicate k false) ++ [false] = bz ++ List.replicate (k + 1) false) := Lib.hid (by rw [List.replicate_succ', ← List.append_assoc])
      have HML : Hid (m + 1 ≤ 140737488355328) := Lib.hid (by have := hm.out; have := HNB.out; omega)
      generalize bz ++ List.replicate k false = lk at *
      have hN := Lib.hid (nl_one wr false 4)
      have hO := Lib.hid (ho.out.alloc (.cells #[.bool false] 4))
      have hB := Lib.hid (hb.out.alloc hb.out.size (.cells #[.bool false] 4))
      have hL1 : Hid (lk.length + 1 ≤ maxLen) := Lib.hid (by rw [HLN.out]; have := HML.out; unfold maxLen; omega)
      have hL2 : Hid ((lk.length + 1) * 1 ≤ 140737488355328) := Lib.hid (by rw [HLN.out]; have := HML.out; omega)
      go_wp2_with (refine wpList_append_bools rfl (.tmp 18) (.tmp 19) 90 4 rfl Try.underlying90 1 infoB w.heap.size _ _ rfl hO.out _ 1 1 [false] rfl hN.out (HPC1.out _) hL1.out hL2.out hB.out.size ?_; intro v4 w4 hob4 hg4; have HO4 := Lib.hid hob4; have HB4 := Lib.hid (below_new_ol hB.out hO.out hg4 hB.out.size); clear hob4 hg4)
      obtain ⟨p5, c5, hv5, _, _, _, _⟩ := HO4.out.open
      have hL5 : (lk ++ [false]).length = m + 1 := by rw [List.length_append, HLN.out]; rfl
      rw [hL5] at hv5
      subst hv5
      have HO5 : Ol w4 w.heap.size 4 (.slice p5 (m + 1) c5) (bz ++ List.replicate (k + 1) false) := by rw [← HAPP.out]; exact HO4.out
      refine ⟨?_, by simp [intOf]; omega⟩
      first
        | exact ⟨k + 1, m + 1, p5, c5, by omega, by go_num, rfl, Lib.hid (by have := hm.out; omega), Lib.hid HO5, HB4⟩
        | ((repeat apply Exists.intro); refine ⟨?_, rfl⟩; exact ⟨k + 1, m + 1, p5, c5, by omega, by go_num, rfl, Lib.hid (by have := hm.out; omega), Lib.hid HO5, HB4⟩)
    · obtain rfl : k = 32 := by omega
      have hm32 : 32 ≤ m := by have := hm.out; omega
      have HMB : Hid (m ≤ 16777760) := Lib.hid (by have := hm.out; have := HNB.out; omega)
      have HLN : Hid ((bz ++ List.replicate 32 false).length = m) := Lib.hid (by rw [List.length_append, List.length_replicate, HN.out, hm.out])
      clear HO1 HB1
      generalize bz ++ List.replicate 32 false = l0 at *
      obtain ⟨g, rfl⟩ := ol_ptr ho.out (by omega)
      go_wp2
      go_loopw [5] (fun i wr => ∃ k : Nat, k ≤ 32 ∧ i = .int .i64 (k : Int) ∧ Hid (Ol wr w.heap.size 4 (.slice (some ⟨g, 0, none⟩) m c2) (flipK l0 k)) ∧ Hid (Below w.heap.size w wr)) (fun i _ => 32 - (intOf i).toNat)
      case atStart => exact ⟨0, by omega, rfl, by rw [flipK_zero]; exact ho, hb⟩
      case round =>
        clear ho hb
        obtain ⟨k, hk, rfl, ho, hb⟩ := hrel
        by_cases hlt : k < 32
        · have hkm : k < m := by omega
          have HS : Hid ((flipK l0 k).set k (!(flipK l0 k).getD k false) = flipK l0 (k + 1)) := Lib.hid (flipK_succ l0 k (by rw [HLN.out]; exact hkm))
          obtain ⟨hcell, hfz⟩ := ho.out.cell k hkm
          obtain ⟨x, hx⟩ : ∃ x, (flipK l0 k).getD k false = x := ⟨_, rfl⟩
          rw [hx] at hcell HS
          clear hx
          go_wp2
          refine ⟨⟨k + 1, by omega, by go_num, ?_, ?_⟩, by simp [intOf] <;> omega⟩
          · rw [← HS.out]
            exact Lib.hid (ho.out.set k hkm (!x))
          · exact Lib.hid (hb.out.setCell (p := ⟨g, k, none⟩) ho.out.block_own.1 _)
        · obtain rfl : k = 32 := by omega
          have HLF : Hid ((flipK l0 32).length = m) := Lib.hid (by rw [flipK_length l0 32 (by rw [HLN.out]; exact hm32), HLN.out])
          generalize flipK l0 32 = lf at *
          clear HLN
          go_wp2
          go_loopw [7, 8] (fun r i wr => ∃ k : Nat, k ≤ m ∧ i = .int .i64 (k : Int) ∧ r = .int .u32 ((uRun 0 (lf.take k) : Nat) : Int) ∧ Hid (Ol wr w.heap.size 4 (.slice (some ⟨g, 0, none⟩) m c2) lf) ∧ Hid (Below w.heap.size w wr)) (fun _ i _ => m - (intOf i).toNat)
          case atStart => exact ⟨0, by omega, rfl, rfl, ho, hb⟩
          case round =>
            clear ho hb
            obtain ⟨k, hk, rfl, rfl, ho, hb⟩ := hrel
            have hmb := HMB.out
            by_cases hlt : k < m
            · have HU := Lib.hid (uRun_take lf k (by rw [HLF.out]; exact hlt))
              obtain ⟨hcell, hfz⟩ := ho.out.cell k hlt
              have hrb : uRun 0 (lf.take k) < 4294967296 := uRun_lt _ (by omega)
              obtain ⟨x, hx⟩ : ∃ x, lf.getD k false = x := ⟨_, rfl⟩
              rw [hx] at hcell HU
              generalize uRun 0 (lf.take k) = r at *
              have HUS := Lib.hid (uS_lt r x)
              obtain ⟨d, hd⟩ : ∃ d, r * 2 % 4294967296 = d := ⟨_, rfl⟩
              have hdw : IntKind.u32.wrap ((r : Int) * 2) = (d : Int) := by rw [IntKind.wrap_u32', ← hd]; omega
              obtain ⟨d1, hde⟩ : ∃ d1, d + 1 = d1 := ⟨_, rfl⟩
              have hd1 : IntKind.u32.wrap ((d : Int) + 1) = (d1 : Int) := by rw [IntKind.wrap_u32']; omega
              have hx0 : bits BinOp.xor IntKind.u32 (d : Int) 517762881 = ((d ^^^ 517762881 : Nat) : Int) := u32_xor_nat d 517762881 (by omega) (by omega)
              have hx1 : bits BinOp.xor IntKind.u32 (d1 : Int) 517762881 = ((d1 ^^^ 517762881 : Nat) : Int) := u32_xor_nat d1 517762881 (by omega) (by omega)
              have HE : Hid (uS r x = if 2147483648 ≤ r then (d + x.toNat) ^^^ 517762881 else d + x.toNat) := Lib.hid (by unfold uS; rw [hd])
              have HX0 := Lib.hid hx0
              have HX1 := Lib.hid hx1
              have HDE := Lib.hid hde
              clear hx hd hx0 hx1 hde
              by_cases ht : 2147483648 ≤ r
              · rw [if_pos ht] at HE
                have hti : (2147483648 : Int) ≤ r := by omega
                cases x
                · go_wp2
                  refine ⟨⟨k + 1, by omega, by go_num, ?_, ho, hb⟩, by simp [intOf] <;> omega⟩
                  rw [HU.out, HE.out, HX0.out]; rfl
                · go_wp2
                  refine ⟨⟨k + 1, by omega, by go_num, ?_, ho, hb⟩, by simp [intOf] <;> omega⟩
                  rw [HU.out, HE.out, HX1.out, ← HDE.out]; rfl
              · rw [if_neg ht] at HE
                have hti : ¬ (2147483648 : Int) ≤ r := by omega
                cases x
                · go_wp2
                  refine ⟨⟨k + 1, by omega, by go_num, ?_, ho, hb⟩, by simp [intOf] <;> omega⟩
                  rw [HU.out, HE.out]; rfl
                · go_wp2
                  refine ⟨⟨k + 1, by omega, by go_num, ?_, ho, hb⟩, by simp [intOf] <;> omega⟩
                  rw [HU.out, HE.out, ← HDE.out]; rfl
            · clear hmb
              obtain rfl : k = m := by omega
              have hte : lf.take k = lf := List.take_of_length_le (by rw [HLF.out]; omega)
              rw [hte]
              have hrb : uRun 0 lf < 4294967296 := uRun_lt _ (by omega)
              generalize uRun 0 lf = r at *
              clear hte
              go_wp2
              go_loopw [10, 11] (fun o i w5 => ∃ j : Nat, j ≤ 32 ∧ i = .int .i64 (j : Int) ∧ o = .int .u32 ((revN r j : Nat) : Int) ∧ wr = w5) (fun _ i _ => 32 - (intOf i).toNat)
              case atStart => exact ⟨0, by omega, rfl, rfl, rfl⟩
              case round =>
                obtain ⟨j, hj, rfl, rfl, rfl⟩ := hrel
                by_cases hlt2 : j < 32
                · have HR : Hid (revN r (j + 1) = revN r j * 2 + r / 2 ^ j % 2) := Lib.hid rfl
                  go_wp2
                  refine ⟨⟨j + 1, by omega, by go_num, ?_, trivial⟩, by simp [intOf] <;> omega⟩
                  have hv := revN_lt r (j + 1)
                  have hp : 2 ^ (j + 1) ≤ 2 ^ 32 := Nat.pow_le_pow_right (by omega) (by omega)
                  rw [pow_bit', HR.out]
                  rw [HR.out] at hv
                  generalize revN r j = v at *
                  generalize r / 2 ^ j % 2 = t at *
                  congr 1
                  omega
                · obtain rfl : j = 32 := by omega
                  have hn := not_u32 (revN r 32) (revN_lt r 32)
                  have HQ : Hid (4294967295 - revN r 32 = crcN zs) := Lib.hid HFIN.out
                  rw [HQ.out] at hn
                  generalize revN r 32 = q at *
                  go_wp2
                  go_ret
                  exact ⟨rfl, hb.out⟩
end Go.Proofs.Ytjdigncieoaglaa

namespace Go.Proofs.Ytjdigncieoaglaa
set_option linter.unusedVariables false
open Go.RowKit Go.Lib

theorem frmN_parts (k s : Int) (data : List Int) : frmN k s data = ([] ++ [k % 256] ++ putN s 8 ++ putN (data.length : Int) 4 ++ putN (crcN ([] ++ [k % 256] ++ putN s 8 ++ putN (data.length : Int) 4) : Nat) 4 ++ data) ++ putN (crcN ([] ++ [k % 256] ++ putN s 8 ++ putN (data.length : Int) 4 ++ putN (crcN ([] ++ [k % 256] ++ putN s 8 ++ putN (data.length : Int) 4) : Nat) 4 ++ data) : Nat) 4 := by
  have e : frmS k s data.length = [] ++ [k % 256] ++ putN s 8 ++ putN (data.length : Int) 4 := by
    unfold frmS
    rw [show putN k 1 = [k % 256] by simp [putN]]
    simp
  unfold frmN frmH sealN
  rw [e]

set_option maxRecDepth 100000 in
set_option maxHeartbeats 1000000 in
theorem rmake_any (k s : Int) (p : Option Addr) (n c : Nat) (zs : List Int) (w : World) (h : Bs w p n zs) (hpc : p = none → c = 0) (hn : n ≤ 1048576) (hs : 0 ≤ s ∧ s < 18446744073709551616) :
    Calls Try.prog 21 #[.int .i64 k, .int .u64 s, .slice p n c] w fun e w' => ∃ v, e = .returned v ∧ Ob w' w.heap.size 5 v (frmN k s zs) ∧ Below w.heap.size w w' := by
  have H := Lib.hid h
  have HPC := Lib.hid hpc
  have hzl := h.len
  have HF := Lib.hid (frmN_parts k s zs)
  rw [hzl] at HF
  obtain ⟨R, hR⟩ : ∃ R, frmN k s zs = R := ⟨_, rfl⟩
  rw [hR] at HF ⊢
  obtain ⟨x1, e1⟩ : ∃ x, ([] : List Int) ++ [k % 256] = x := ⟨_, rfl⟩
  rw [e1] at HF
  have l1 : x1.length = 1 := by rw [← e1]; rfl
  obtain ⟨x2, e2⟩ : ∃ x, x1 ++ putN s 8 = x := ⟨_, rfl⟩
  rw [e2] at HF
  have l2 : x2.length = 9 := by rw [← e2, List.length_append, putN_length, l1]
  obtain ⟨x3, e3⟩ : ∃ x, x2 ++ putN (n : Int) 4 = x := ⟨_, rfl⟩
  rw [e3] at HF
  have l3 : x3.length = 13 := by rw [← e3, List.length_append, putN_length, l2]
  have hc3 := crcN_lt x3
  obtain ⟨q3, hq3⟩ : ∃ q, crcN x3 = q := ⟨_, rfl⟩
  rw [hq3] at HF hc3
  obtain ⟨x4, e4⟩ : ∃ x, x3 ++ putN (q3 : Int) 4 = x := ⟨_, rfl⟩
  rw [e4] at HF
  have l4 : x4.length = 17 := by rw [← e4, List.length_append, putN_length, l3]
  obtain ⟨x5, e5⟩ : ∃ x, x4 ++ zs = x := ⟨_, rfl⟩
  rw [e5] at HF
  obtain ⟨L, hL⟩ : ∃ L, x5.length = L := ⟨_, rfl⟩
  have l5 : L = 17 + n := by rw [← hL, ← e5, List.length_append, l4, hzl]
  have hc5 := crcN_lt x5
  obtain ⟨q5, hq5⟩ : ∃ q, crcN x5 = q := ⟨_, rfl⟩
  rw [hq5] at HF hc5
  have E1 := Lib.hid e1
  have E2 := Lib.hid e2
  have E3 := Lib.hid e3
  have E4 := Lib.hid e4
  have E5 := Lib.hid e5
  have L1 := Lib.hid l1
  have L2 := Lib.hid l2
  have L3 := Lib.hid l3
  have L4 := Lib.hid l4
  have L5 := Lib.hid hL
  have Q3 := Lib.hid hq3
  have Q5 := Lib.hid hq5
  have hL5 : L ≤ 2097216 := by omega
  have hw3 : IntKind.u64.wrap (q3 : Int) = (q3 : Int) := wrap_u64_in (by omega) (by omega)
  have hw5 : IntKind.u64.wrap (q5 : Int) = (q5 : Int) := wrap_u64_in (by omega) (by omega)
  have hwn : IntKind.u64.wrap (n : Int) = (n : Int) := wrap_u64_in (by omega) (by omega)
  have hwk : IntKind.u8.wrap k = k % 256 := by simp [IntKind.wrap, IntKind.bits, IntKind.signed]
  have hk : 0 ≤ k % 256 ∧ k % 256 < 256 := by omega
  have HA4 : Hid (x4.length + n ≤ 140737488355328) := Lib.hid (by omega)
  clear h hpc hzl hR e1 e2 e3 e4 e5 l1 l2 l3 l4 l5 hL hq3 hq5
  go_enter Try.func21, Try.ntmps21
  go_wp2_with (first
    | ((fail_if_success (have hh := HB1.out)); refine wpList_append_bytes rfl _ _ 23 5 rfl Try.underlying23 info8 w.heap.size _ [] rfl (Ob.nil _ _ _) (some ⟨w.heap.size, 0, none⟩) 1 1 [k % 256] rfl (bs_one w _ _ hk.1 hk.2) (fun h => by cases h) (by simp) (by simp) ?_; intro v1 w1 ho1 hg1; rw [E1.out] at ho1; have HB1 : Hid (Below w.heap.size w w1) := Lib.hid (below_new (e := 5) ((Below.refl _ _).alloc (Nat.le_refl _) _) (Ob.nil _ _ _) hg1 (by simp)); obtain ⟨p1, c1, hv1, hlc1, hcm1, hbs1, hpc1⟩ := ho1.open; rw [L1.out] at hv1 hlc1 hbs1; subst hv1; have HD1 := Lib.hid hbs1; have HP1 := Lib.hid hpc1; clear ho1 hg1 hbs1 hpc1)
    | (go_at_call 31; (fail_if_success (have hh := HB2.out)); refine (rput_any _ 1 _ x1 s 8 _ HD1.out HP1.out (by omega) (by omega) (by omega) hs.1 hs.2).mono ?_; rintro e w2 ⟨v2, rfl, ho2, hb2⟩; rw [E2.out] at ho2; have HB2 := Lib.hid (below_step HB1.out hb2); obtain ⟨p2, c2, hv2, hlc2, hcm2, hbs2, hpc2⟩ := ho2.open; rw [L2.out] at hv2 hlc2 hbs2; subst hv2; have HD2 := Lib.hid hbs2; have HP2 := Lib.hid hpc2; clear ho2 hb2 hbs2 hpc2)
    | (go_at_call 31; (fail_if_success (have hh := HB3.out)); refine (rput_any _ 9 _ x2 (n : Int) 4 _ HD2.out HP2.out (by omega) (by omega) (by omega) (by omega) (by omega)).mono ?_; rintro e w3 ⟨v3, rfl, ho3, hb3⟩; rw [E3.out] at ho3; have HB3 := Lib.hid (below_step HB2.out hb3); obtain ⟨p3, c3, hv3, hlc3, hcm3, hbs3, hpc3⟩ := ho3.open; rw [L3.out] at hv3 hlc3 hbs3; subst hv3; have HD3 := Lib.hid hbs3; have HP3 := Lib.hid hpc3; clear ho3 hb3 hbs3 hpc3)
    | (go_at_call 32; (fail_if_success (have hh := HBa.out)); refine (rcrc_any _ 13 _ x3 _ HD3.out (by omega)).mono ?_; rintro e wa ⟨rfl, hba⟩; rw [Q3.out]; have HBa := Lib.hid (below_step HB3.out hba); have HDa := Lib.hid (HD3.out.later hba); clear hba)
    | (go_at_call 31; (fail_if_success (have hh := HB4.out)); refine (rput_any _ 13 _ x3 (q3 : Int) 4 _ HDa.out HP3.out (by omega) (by omega) (by omega) (by omega) (by omega)).mono ?_; rintro e w4 ⟨v4, rfl, ho4, hb4⟩; rw [E4.out] at ho4; have HB4 := Lib.hid (below_step HBa.out hb4); have HO4 := Lib.hid (ho4.mono HBa.out.size); clear ho4 hb4)
    | (refine wpList_append_bytes rfl _ _ 23 5 rfl Try.underlying23 info8 w.heap.size _ x4 rfl HO4.out p n c zs rfl (H.out.later HB4.out) HPC.out HA4.out HB4.out.size ?_; intro v5 w5 ho5 hg5; rw [E5.out] at ho5; have HB5 := Lib.hid (below_new HB4.out HO4.out hg5 HB4.out.size); obtain ⟨p5, c5, hv5, hlc5, hcm5, hbs5, hpc5⟩ := ho5.open; rw [L5.out] at hv5 hlc5 hbs5; subst hv5; have HD5 := Lib.hid hbs5; have HP5 := Lib.hid hpc5; clear ho5 hg5 hbs5 hpc5)
    | (go_at_call 32; refine (rcrc_any _ L _ x5 _ HD5.out hL5).mono ?_; rintro e wb ⟨rfl, hbb⟩; rw [Q5.out]; have HBb := Lib.hid (below_step HB5.out hbb); have HDb := Lib.hid (HD5.out.later hbb); clear hbb)
    | (go_at_call 31; refine (rput_any _ L _ x5 (q5 : Int) 4 _ HDb.out HP5.out (by omega) (by omega) (by omega) (by omega) (by omega)).mono ?_; rintro e w6 ⟨v6, rfl, ho6, hb6⟩; have HB6 := Lib.hid (below_step HBb.out hb6); have HO6 := Lib.hid (ho6.mono HBb.out.size); clear ho6 hb6))
  go_ret
  exact ⟨_, rfl, by rw [HF.out]; exact HO6.out, HB6.out⟩
end Go.Proofs.Ytjdigncieoaglaa

namespace Go.Proofs.Ytjdigncieoaglaa
set_option linter.unusedVariables false
open Go.RowKit Go.Lib

theorem putS_n (n : Int) (s : Nat) (h1 : 1 ≤ s) (h8 : s ≤ 8) : putS n (s : Int) = putN n s := by
  unfold putS
  rw [if_pos (by simp [isSizeB]; omega), Int.toNat_natCast]

theorem fnumber_any (p : Option Addr) (len cap : Nat) (zs : List Int) (a s : Int) (w : World) (h : Bs w p len zs) (hlen : len ≤ maxLen) (ha : -9223372036854775808 ≤ a ∧ a ≤ 9223372036854775807) :
    Calls Try.prog 82 #[.slice p len cap, .int .i64 a, .int .i64 s] w fun e w' => e = .returned (.int .u64 (takeN zs a s)) ∧ w = w' := by
  have H := Lib.hid h
  clear h
  go_enter Try.func82, Try.ntmps82
  go_wp2_with (go_at_call 80; refine (take_any _ _ _ zs _ _ _ H.out hlen ha).mono ?_; rintro e w' ⟨rfl, rfl⟩)
  go_ret
  exact ⟨rfl, rfl⟩

theorem fsize_any (n : Nat) (w : World) (hn : n ≤ 140737488355328) :
    Calls Try.prog 78 #[.int .i64 (n : Int)] w fun e w' => e = .returned (.int .i64 ((n : Int) + 21)) ∧ w = w' := by
  go_enter Try.func78, Try.ntmps78
  go_wp2
  go_ret
  exact ⟨ret_int (by omega), rfl⟩

/-- a head, as a value -/
def hdV (k s z : Int) : Value := .agg #[.int .u64 k, .int .u64 s, .int .u64 z]

theorem hlength_any (k s : Int) (n : Nat) (w : World) (hn : n ≤ 4294967296) :
    Calls Try.prog 69 #[hdV k s (n : Int)] w fun e w' => e = .returned (.int .i64 ((n : Int) + 21)) ∧ Below w.heap.size w w' := by
  have HB0 : Hid (Below w.heap.size w (w.alloc (.cells #[.int .u64 k, .int .u64 s, .int .u64 (n : Int)] 96))) := Lib.hid ((Below.refl _ _).alloc (Nat.le_refl _) _)
  unfold hdV
  go_enter Try.func69, Try.ntmps69
  go_wp2_with (go_at_call 78; refine (fsize_any n _ (by omega)).mono ?_; rintro e w' ⟨rfl, rfl⟩)
  go_ret
  exact ⟨rfl, HB0.out⟩

set_option maxRecDepth 100000 in
theorem fsealed_any (p : Option Addr) (len cap : Nat) (zs : List Int) (w : World) (h : Bs w p len zs) (hlen : len ≤ 140737488351232) :
    Calls Try.prog 63 #[.slice p len cap] w fun e w' => ∃ v, e = .returned v ∧ Ob w' w.heap.size 5 v (sealN zs) ∧ Below w.heap.size w w' := by
  have H := Lib.hid h
  have hm : len ≤ maxLen := by unfold maxLen; omega
  have HP := Lib.hid (putS_n (crcN zs : Nat) 4 (by omega) (by omega))
  have HL := Lib.hid (crcN_lt zs)
  unfold sealN
  rw [← HP.out]
  obtain ⟨s, hs0⟩ : ∃ s, crcN zs = s := ⟨_, rfl⟩
  have HS := Lib.hid hs0
  rw [hs0] at HL ⊢
  have hs := HL.out
  clear h HP hs0
  go_enter Try.func63, Try.ntmps63
  go_wp2_with (first
    | (go_at_call 75; refine (csum_any p len cap zs _ H.out hm).mono ?_; rintro e w1 ⟨rfl, hb1⟩; rw [HS.out]; have HB1 := Lib.hid hb1; clear hb1)
    | (go_at_call 51; refine (put_any p len cap zs (s : Int) 4 _ (H.out.later HB1.out) hlen (by omega) (by omega)).mono ?_; rintro e w2 ⟨v2, rfl, ho2, hb2⟩; have HO2 := Lib.hid (ho2.mono HB1.out.size); have HB2 := Lib.hid (below_step HB1.out hb2); clear ho2 hb2))
  go_ret
  exact ⟨_, rfl, HO2.out, HB2.out⟩

set_option maxRecDepth 100000 in
theorem funsealed_any (b off n cap : Nat) (zs : List Int) (w : World) (h : Bs w (some ⟨b, off, none⟩) (n + 4) zs) (hlc : n + 4 ≤ cap) (hlen : n + 4 ≤ 140737488351232) :
    Calls Try.prog 77 #[.slice (some ⟨b, off, none⟩) (n + 4) cap] w fun e w' => e = .returned (.tuple #[if okN zs n then .slice (some ⟨b, off, none⟩) n cap else .slice none 0 0, .bool (okN zs n)]) ∧ Below w.heap.size w w' := by
  have H := Lib.hid h
  have hm : n + 4 ≤ maxLen := by unfold maxLen; omega
  have hm' : n ≤ maxLen := by unfold maxLen; omega
  have hz := h.len
  have HT := Lib.hid (h.take n (by omega))
  have HK : Hid (takeN zs (n : Int) 4 = leN zs n 4) := Lib.hid (takeN_n zs n 4 (by omega) (by omega) (by omega))
  have hsl := fun W => run_slice_to (P := Try.prog) W 23 5 Try.underlying23 (fun _ => by kernel_rfl) b off (n + 4) cap n (by omega)
  have hw : IntKind.i64.wrap (((n + 4 : Nat) : Int) - 4) = (n : Int) := by simp [IntKind.wrap, IntKind.bits, IntKind.signed]; omega
  have HOK : Hid (okN zs n = decide (leN zs n 4 = (crcN (zs.take n) : Nat))) := Lib.hid rfl
  have HBY := leN_bd zs h.byte n 4
  generalize leN zs n 4 = x at *
  generalize okN zs n = o at *
  obtain ⟨s, hs⟩ : ∃ s, crcN (zs.take n) = s := ⟨_, rfl⟩
  have hsl2 := crcN_lt (zs.take n)
  rw [hs] at HOK hsl2
  have HS := Lib.hid hs
  obtain ⟨wd, hwd⟩ : ∃ W, w.drew = W := ⟨_, rfl⟩
  have HBD : Hid (Below w.heap.size w wd) := Lib.hid (by rw [← hwd]; exact (Below.refl _ _).drew)
  have HD := Lib.hid (H.out.later HBD.out)
  have HTD := Lib.hid (HT.out.later HBD.out)
  have hws : IntKind.u64.wrap (s : Int) = (s : Int) := wrap_u64_in (by omega) (by omega)
  have hne : (x != (s : Int)) = !o := by
    rw [HOK.out, Bool.eq_iff_iff]
    simp
  clear h hs hz HOK
  go_enter Try.func77, Try.ntmps77
  go_wp2
  go_region_held3 (fun _ => True) (trivial) (first
    | (go_at_call 82; refine (fnumber_any _ _ _ zs _ _ _ (by first | exact HD.out | exact HD1.out) hm (by omega)).mono ?_; rintro e w' ⟨rfl, rfl⟩; rw [HK.out])
    | (go_at_call 75; refine (csum_any _ n cap (zs.take n) _ HTD.out hm').mono ?_; rintro e w1 ⟨rfl, hb1⟩; rw [HS.out]; have HD1 := Lib.hid (HD.out.later hb1); have HB1 := Lib.hid (below_step HBD.out hb1); clear hb1))
  all_goals (cases o <;> (go_wp2; go_ret2; exact ⟨rfl, HB1.out⟩))
end Go.Proofs.Ytjdigncieoaglaa
