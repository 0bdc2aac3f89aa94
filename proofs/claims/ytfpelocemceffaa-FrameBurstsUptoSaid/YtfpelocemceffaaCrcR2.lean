/- The walk of the reference's Sum. -/
import Derived.Test.YtfpelocemceffaaCrcR1
namespace Go.Proofs.Ytfpelocemceffaa
set_option linter.unusedVariables false
open Go.RowKit Go.Lib

def flipK (l : List Bool) (k : Nat) : List Bool := List.zipWith xor l (List.replicate k true ++ List.replicate (l.length - k) false)
theorem flipK_length (l : List Bool) (k : Nat) (h : k ≤ l.length) : (flipK l k).length = l.length := by simp [flipK]; omega
theorem flipK_zero (l : List Bool) : flipK l 0 = l := by
  unfold flipK
  rw [List.replicate_zero, List.nil_append, Nat.sub_zero]
  induction l with
  | nil => rfl
  | cons b l ih => simp only [List.length_cons, List.replicate_succ, List.zipWith_cons_cons, ih, Bool.xor_false]
theorem flipK_inv (l : List Bool) : flipK l 32 = inv32 l := rfl
theorem flipK_get (l : List Bool) (k j : Nat) (h : k ≤ l.length) : (flipK l k)[j]? = if j < k then (l[j]?).map (!·) else l[j]? := by
  unfold flipK
  rw [List.getElem?_zipWith]
  by_cases hj : j < l.length
  · rw [List.getElem?_eq_getElem hj, List.getElem?_append]
    by_cases hk : j < k
    · simp [hk]
    · simp [hk, show j - k < l.length - k by omega]
  · rw [List.getElem?_eq_none (by omega)]
    simp
theorem flipK_succ (l : List Bool) (k : Nat) (h : k < l.length) : (flipK l k).set k (!(flipK l k).getD k false) = flipK l (k + 1) := by
  apply List.ext_getElem?
  intro j
  rw [List.getElem?_set, flipK_get l (k + 1) j (by omega), flipK_get l k j (by omega), List.getD_eq_getElem?_getD, flipK_get l k k (by omega), flipK_length l k (by omega)]
  by_cases e : k = j
  · subst e
    simp [h]
  · rw [if_neg e]
    by_cases h1 : j < k
    · rw [if_pos h1, if_pos (by omega)]
    · rw [if_neg h1, if_neg (by omega)]
theorem uRun_snoc (r : Nat) (l : List Bool) (b : Bool) : uRun r (l ++ [b]) = uS (uRun r l) b := by
  induction l generalizing r with
  | nil => rfl
  | cons c l ih => exact ih _
theorem uRun_take (l : List Bool) (k : Nat) (h : k < l.length) : uRun 0 (l.take (k + 1)) = uS (uRun 0 (l.take k)) (l.getD k false) := by
  rw [List.take_succ_eq_append_getElem h, uRun_snoc]
  congr 1
  simp [List.getD_eq_getElem?_getD, h]
theorem uRun_lt {r : Nat} (l : List Bool) (h : r < 4294967296) : uRun r l < 4294967296 := by
  induction l generalizing r with
  | nil => exact h
  | cons c l ih => exact ih (uS_lt _ _)
theorem ol_ptr {w : World} {B n cap : Nat} {p : Option Addr} {e : TypeId} {l : List Bool} (h : Ol w B e (.slice p n cap) l) (hn : 0 < n) : ∃ g, p = some ⟨g, 0, none⟩ := by
  rcases h.2 with ⟨hv, h0⟩ | ⟨g, cap', cur, hv, _⟩
  · simp only [Value.slice.injEq] at hv; omega
  · simp only [Value.slice.injEq] at hv; exact ⟨g, hv.1⟩

theorem pow_bit' (m k : Nat) : ((m : Int) / 2 ^ k).tmod 2 = ((m / 2 ^ k % 2 : Nat) : Int) := by
  have e : (m : Int) / 2 ^ k = ((m / 2 ^ k : Nat) : Int) := by rw [Int.natCast_ediv, Int.natCast_pow]; rfl
  rw [e, Int.tmod_eq_emod_of_nonneg (Int.natCast_nonneg _)]
  rfl

set_option maxRecDepth 100000 in
set_option maxHeartbeats 2000000 in
theorem rcrc_any (p : Option Addr) (len cap : Nat) (zs : List Int) (w : World) (h : Bs w p len zs) (hlen : len ≤ 2097152) :
    Calls Try.prog 20 #[.slice p len cap] w fun e w' => e = .returned (.int .u32 ((crcN zs : Nat) : Int)) ∧ Below w.heap.size w w' := by
  have H := Lib.hid h
  have HFIN : Hid (4294967295 - rev32 (uRun 0 (flipK (bitsZ zs ++ List.replicate 32 false) 32)) = crcN zs) := Lib.hid (by rw [flipK_inv, uRun_inv]; rfl)
  have HPC1 : Hid (∀ g : Nat, (some (⟨g, 0, none⟩ : Addr)) = none → 1 = 0) := Lib.hid (by simp)
  have HZL : Hid ((bitsZ zs).length = 8 * len) := Lib.hid (by unfold bitsZ; rw [bitsTo_length, h.len])
  clear h
  go_enter Try.func20, Try.ntmps20
  go_wp2_with fail
  refine (rbits_any p len cap zs _ H.out hlen).mono ?_
  rintro e w1 ⟨v1, rfl, ho1, hb1⟩
  generalize bitsZ zs = bz at *
  obtain ⟨p1, c1, hv1, _⟩ := ho1.open
  subst hv1
  have HO1 := Lib.hid ho1
  have HB1 := Lib.hid hb1
  obtain ⟨N, hN⟩ : ∃ N, bz.length = N := ⟨_, rfl⟩
  have HN := Lib.hid hN
  have HNB : Hid (N ≤ 16777216) := Lib.hid (by rw [← hN, HZL.out]; omega)
  rw [hN] at HO1
  rw [hN]
  clear ho1 hb1 hN HZL
  go_wp2
  go_loopw [3, 4] (fun v i wr => ∃ (k m : Nat) (p' : Option Addr) (c' : Nat), k ≤ 32 ∧ i = .int .i64 (k : Int) ∧ v = .slice p' m c' ∧ Hid (m = N + k) ∧ Hid (Ol wr w.heap.size 4 (.slice p' m c') (bz ++ List.replicate k false)) ∧ Hid (Below w.heap.size w wr)) (fun _ i _ => 32 - (intOf i).toNat)
  case atStart => exact ⟨0, N, p1, c1, by omega, rfl, rfl, Lib.hid rfl, Lib.hid (by rw [List.replicate_zero, List.append_nil]; exact HO1.out), HB1⟩
  case round =>
    obtain ⟨k, m, p2, c2, hk, rfl, rfl, hm, ho, hb⟩ := hrel
    by_cases hlt : k < 32
    · have HLN : Hid ((bz ++ List.replicate k false).length = m) := Lib.hid (by rw [List.length_append, List.length_replicate, HN.out, hm.out])
      have HAPP : Hid ((bz ++ List.replicate k false) ++ [false] = bz ++ List.replicate (k + 1) false) := Lib.hid (by rw [List.replicate_succ', ← List.append_assoc])
      have HML : Hid (m + 1 ≤ 140737488355328) := Lib.hid (by have := hm.out; have := HNB.out; omega)
      generalize bz ++ List.replicate k false = lk at *
      have hN := Lib.hid (nl_one wr false 4)
      have hO := Lib.hid (ho.out.alloc (.cells #[.bool false] 4))
      have hB := Lib.hid (hb.out.alloc hb.out.size (.cells #[.bool false] 4))
      have hL1 : Hid (lk.length + 1 ≤ maxLen) := Lib.hid (by rw [HLN.out]; have := HML.out; unfold maxLen; omega)
      have hL2 : Hid ((lk.length + 1) * 1 ≤ 140737488355328) := Lib.hid (by rw [HLN.out]; have := HML.out; omega)
      go_wp2_with (refine wpList_append_bools rfl (.tmp 18) (.tmp 19) 63 4 rfl Try.underlying63 1 infoB w.heap.size _ _ rfl hO.out _ 1 1 [false] rfl hN.out (HPC1.out _) hL1.out hL2.out hB.out.size ?_; intro v4 w4 hob4 hg4; have HO4 := Lib.hid hob4; have HB4 := Lib.hid (below_new_ol hB.out hO.out hg4 hB.out.size); clear hob4 hg4)
      obtain ⟨p5, c5, hv5, _, _, _, _⟩ := HO4.out.open
      have hL5 : (lk ++ [false]).length = m + 1 := by rw [List.length_append, HLN.out]; rfl
      rw [hL5] at hv5
      subst hv5
      have HO5 : Ol w4 w.heap.size 4 (.slice p5 (m + 1) c5) (bz ++ List.replicate (k + 1) false) := by rw [← HAPP.out]; exact HO4.out
      refine ⟨?_, by simp [intOf]; omega⟩
      first
        | exact ⟨k + 1, m + 1, p5, c5, by omega, by go_num, rfl, Lib.hid (by have := hm.out; omega), Lib.hid HO5, HB4⟩
        | ((repeat apply Exists.intro); refine ⟨?_, rfl⟩; exact ⟨k + 1, m + 1, p5, c5, by omega, by go_num, rfl, Lib.hid (by have := hm.out; omega), Lib.hid HO5, HB4⟩)
    · obtain rfl : k = 32 := by omega
      have hm32 : 32 ≤ m := by have := hm.out; omega
      have HMB : Hid (m ≤ 16777248) := Lib.hid (by have := hm.out; have := HNB.out; omega)
      have HLN : Hid ((bz ++ List.replicate 32 false).length = m) := Lib.hid (by rw [List.length_append, List.length_replicate, HN.out, hm.out])
      clear HO1 HB1
      generalize bz ++ List.replicate 32 false = l0 at *
      obtain ⟨g, rfl⟩ := ol_ptr ho.out (by omega)
      go_wp2
      go_loopw [5] (fun i wr => ∃ k : Nat, k ≤ 32 ∧ i = .int .i64 (k : Int) ∧ Hid (Ol wr w.heap.size 4 (.slice (some ⟨g, 0, none⟩) m c2) (flipK l0 k)) ∧ Hid (Below w.heap.size w wr)) (fun i _ => 32 - (intOf i).toNat)
      case atStart => exact ⟨0, by omega, rfl, by rw [flipK_zero]; exact ho, hb⟩
      case round =>
        clear ho hb
        obtain ⟨k, hk, rfl, ho, hb⟩ := hrel
        by_cases hlt : k < 32
        · have hkm : k < m := by omega
          have HS : Hid ((flipK l0 k).set k (!(flipK l0 k).getD k false) = flipK l0 (k + 1)) := Lib.hid (flipK_succ l0 k (by rw [HLN.out]; exact hkm))
          obtain ⟨hcell, hfz⟩ := ho.out.cell k hkm
          obtain ⟨x, hx⟩ : ∃ x, (flipK l0 k).getD k false = x := ⟨_, rfl⟩
          rw [hx] at hcell HS
          clear hx
          go_wp2
          refine ⟨⟨k + 1, by omega, by go_num, ?_, ?_⟩, by simp [intOf] <;> omega⟩
          · rw [← HS.out]
            exact Lib.hid (ho.out.set k hkm (!x))
          · exact Lib.hid (hb.out.setCell (p := ⟨g, k, none⟩) ho.out.block_own.1 _)
        · obtain rfl : k = 32 := by omega
          have HLF : Hid ((flipK l0 32).length = m) := Lib.hid (by rw [flipK_length l0 32 (by rw [HLN.out]; exact hm32), HLN.out])
          generalize flipK l0 32 = lf at *
          clear HLN
          go_wp2
          go_loopw [7, 8] (fun r i wr => ∃ k : Nat, k ≤ m ∧ i = .int .i64 (k : Int) ∧ r = .int .u32 ((uRun 0 (lf.take k) : Nat) : Int) ∧ Hid (Ol wr w.heap.size 4 (.slice (some ⟨g, 0, none⟩) m c2) lf) ∧ Hid (Below w.heap.size w wr)) (fun _ i _ => m - (intOf i).toNat)
          case atStart => exact ⟨0, by omega, rfl, rfl, ho, hb⟩
          case round =>
            clear ho hb
            obtain ⟨k, hk, rfl, rfl, ho, hb⟩ := hrel
            have hmb := HMB.out
            by_cases hlt : k < m
            · have HU := Lib.hid (uRun_take lf k (by rw [HLF.out]; exact hlt))
              obtain ⟨hcell, hfz⟩ := ho.out.cell k hlt
              have hrb : uRun 0 (lf.take k) < 4294967296 := uRun_lt _ (by omega)
              obtain ⟨x, hx⟩ : ∃ x, lf.getD k false = x := ⟨_, rfl⟩
              rw [hx] at hcell HU
              generalize uRun 0 (lf.take k) = r at *
              have HUS := Lib.hid (uS_lt r x)
              obtain ⟨d, hd⟩ : ∃ d, r * 2 % 4294967296 = d := ⟨_, rfl⟩
              have hdw : IntKind.u32.wrap ((r : Int) * 2) = (d : Int) := by rw [IntKind.wrap_u32', ← hd]; omega
              obtain ⟨d1, hde⟩ : ∃ d1, d + 1 = d1 := ⟨_, rfl⟩
              have hd1 : IntKind.u32.wrap ((d : Int) + 1) = (d1 : Int) := by rw [IntKind.wrap_u32']; omega
              have hx0 : bits BinOp.xor IntKind.u32 (d : Int) 517762881 = ((d ^^^ 517762881 : Nat) : Int) := u32_xor_nat d 517762881 (by omega) (by omega)
              have hx1 : bits BinOp.xor IntKind.u32 (d1 : Int) 517762881 = ((d1 ^^^ 517762881 : Nat) : Int) := u32_xor_nat d1 517762881 (by omega) (by omega)
              have HE : Hid (uS r x = if 2147483648 ≤ r then (d + x.toNat) ^^^ 517762881 else d + x.toNat) := Lib.hid (by unfold uS; rw [hd])
              have HX0 := Lib.hid hx0
              have HX1 := Lib.hid hx1
              have HDE := Lib.hid hde
              clear hx hd hx0 hx1 hde
              by_cases ht : 2147483648 ≤ r
              · rw [if_pos ht] at HE
                have hti : (2147483648 : Int) ≤ r := by omega
                cases x
                · go_wp2
                  refine ⟨⟨k + 1, by omega, by go_num, ?_, ho, hb⟩, by simp [intOf] <;> omega⟩
                  rw [HU.out, HE.out, HX0.out]; rfl
                · go_wp2
                  refine ⟨⟨k + 1, by omega, by go_num, ?_, ho, hb⟩, by simp [intOf] <;> omega⟩
                  rw [HU.out, HE.out, HX1.out, ← HDE.out]; rfl
              · rw [if_neg ht] at HE
                have hti : ¬ (2147483648 : Int) ≤ r := by omega
                cases x
                · go_wp2
                  refine ⟨⟨k + 1, by omega, by go_num, ?_, ho, hb⟩, by simp [intOf] <;> omega⟩
                  rw [HU.out, HE.out]; rfl
                · go_wp2
                  refine ⟨⟨k + 1, by omega, by go_num, ?_, ho, hb⟩, by simp [intOf] <;> omega⟩
                  rw [HU.out, HE.out, ← HDE.out]; rfl
            · clear hmb
              obtain rfl : k = m := by omega
              have hte : lf.take k = lf := List.take_of_length_le (by rw [HLF.out]; omega)
              rw [hte]
              have hrb : uRun 0 lf < 4294967296 := uRun_lt _ (by omega)
              generalize uRun 0 lf = r at *
              clear hte
              go_wp2
              go_loopw [10, 11] (fun o i w5 => ∃ j : Nat, j ≤ 32 ∧ i = .int .i64 (j : Int) ∧ o = .int .u32 ((revN r j : Nat) : Int) ∧ wr = w5) (fun _ i _ => 32 - (intOf i).toNat)
              case atStart => exact ⟨0, by omega, rfl, rfl, rfl⟩
              case round =>
                obtain ⟨j, hj, rfl, rfl, rfl⟩ := hrel
                by_cases hlt2 : j < 32
                · have HR : Hid (revN r (j + 1) = revN r j * 2 + r / 2 ^ j % 2) := Lib.hid rfl
                  go_wp2
                  refine ⟨⟨j + 1, by omega, by go_num, ?_, trivial⟩, by simp [intOf] <;> omega⟩
                  have hv := revN_lt r (j + 1)
                  have hp : 2 ^ (j + 1) ≤ 2 ^ 32 := Nat.pow_le_pow_right (by omega) (by omega)
                  rw [pow_bit', HR.out]
                  rw [HR.out] at hv
                  generalize revN r j = v at *
                  generalize r / 2 ^ j % 2 = t at *
                  congr 1
                  omega
                · obtain rfl : j = 32 := by omega
                  have hn := not_u32 (revN r 32) (revN_lt r 32)
                  have HQ : Hid (4294967295 - revN r 32 = crcN zs) := Lib.hid HFIN.out
                  rw [HQ.out] at hn
                  generalize revN r 32 = q at *
                  go_wp2
                  go_ret
                  exact ⟨rfl, hb.out⟩
end Go.Proofs.Ytfpelocemceffaa
