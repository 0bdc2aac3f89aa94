/- The walk of the reference's bits. -/
import Derived.Test.YtfpelocemceffaaCrcW2
import Derived.Test.YtfpelocemceffaaBoo
namespace Go.Proofs.Ytfpelocemceffaa
set_option linter.unusedVariables false
open Go.RowKit Go.Lib

theorem infoB : (Try.prog.info? 4).map (fun i => (i.zero, i.size, i.bytes)) = some (some (.bool false), 1, 1) := by kernel_rfl
theorem bitsTo_succ (zs : List Int) (n : Nat) : bitsTo zs (n + 1) = bitsTo zs n ++ [bAt zs n] := by
  unfold bitsTo; rw [List.range_succ, List.map_append]; rfl
theorem bAt_byte (zs : List Int) (k j : Nat) (hj : j < 8) : bAt zs (8 * k + j) = ((zs.getD k 0).toNat / 2 ^ j % 2 == 1) := by
  unfold bAt
  rw [show (8 * k + j) / 8 = k by omega, show (8 * k + j) % 8 = j by omega, Nat.testBit_eq_decide_div_mod_eq]
  rfl

set_option maxRecDepth 100000 in
set_option maxHeartbeats 1000000 in
theorem rbits_any (p : Option Addr) (len cap : Nat) (zs : List Int) (w : World) (h : Bs w p len zs) (hlen : len ≤ 2097152) :
    Calls Try.prog 25 #[.slice p len cap] w fun e w' => ∃ v, e = .returned v ∧ Ol w' w.heap.size 4 v (bitsZ zs) ∧ Below w.heap.size w w' := by
  have H := Lib.hid h
  have HL := Lib.hid h.len
  have HO0 := Lib.hid (Ol.nil w w.heap.size 4)
  have HB0 := Lib.hid (Below.refl w.heap.size w)
  have HPC1 : Hid (∀ g : Nat, (some (⟨g, 0, none⟩ : Addr)) = none → 1 = 0) := Lib.hid (by simp)
  clear h
  go_enter Try.func25, Try.ntmps25
  go_wp2
  go_loopw [3, 4] (fun v i wr => ∃ (k n : Nat) (p' : Option Addr) (c' : Nat), k ≤ len ∧ i = .int .i64 (k : Int) ∧ v = .slice p' n c' ∧ Hid (n = 8 * k) ∧ Hid (Ol wr w.heap.size 4 (.slice p' n c') (bitsTo zs n)) ∧ Hid (Below w.heap.size w wr)) (fun _ i _ => len - (intOf i).toNat)
  case atStart => exact ⟨0, 0, none, 0, by omega, rfl, rfl, Lib.hid rfl, HO0, HB0⟩
  case round =>
    obtain ⟨k, n, p1, c1, hk, rfl, rfl, hn, ho, hb⟩ := hrel
    by_cases hlt : k < len
    · obtain ⟨h1, h2, h3⟩ := (H.out.later hb.out)
      go_wp2
      go_loopw [3, 5] (fun v i wq => ∃ (j m : Nat) (p' : Option Addr) (c' : Nat), j ≤ 8 ∧ i = .int .i64 (j : Int) ∧ v = .slice p' m c' ∧ Hid (m = 8 * k + j) ∧ Hid (Ol wq w.heap.size 4 (.slice p' m c') (bitsTo zs m)) ∧ Hid (Below w.heap.size w wq)) (fun _ i _ => 8 - (intOf i).toNat)
      case atStart => exact ⟨0, n, p1, c1, by omega, rfl, rfl, Lib.hid hn.out, ho, hb⟩
      case round =>
        clear ho hb h1 h2 h3
        obtain ⟨j, m, p2, c2, hj, rfl, rfl, hm, ho, hb⟩ := hrel
        by_cases hlt2 : j < 8
        · obtain ⟨h1, h2, h3⟩ := (H.out.later hb.out)
          obtain ⟨y, hy⟩ : ∃ y, zs.getD k 0 = y := ⟨_, rfl⟩
          have hyb := h2 k
          rw [hy] at hyb
          rcases h3 with h0 | ⟨b, off, rfl, hc⟩
          · omega
          have hck := hc k hlt
          rw [hy] at hck
          obtain ⟨c, rfl⟩ : ∃ c : Nat, y = (c : Int) := ⟨y.toNat, by omega⟩
          have hbt := bAt_byte zs k j hlt2
          rw [hy, Int.toNat_natCast] at hbt
          clear h1 h2 hc hy
          obtain ⟨V, hV⟩ : ∃ V, (((c : Int) / 2 ^ j).tmod 2 == 1) = V := ⟨_, rfl⟩
          have HV : Hid (bitsTo zs (m + 1) = bitsTo zs m ++ [V]) := Lib.hid (by
            rw [bitsTo_succ, hm.out, hbt, ← hV]
            have e : (c : Int) / 2 ^ j = ((c / 2 ^ j : Nat) : Int) := by rw [Int.natCast_ediv, Int.natCast_pow]; rfl
            rw [e, Int.tmod_eq_emod_of_nonneg (Int.natCast_nonneg _)]
            congr 2
            generalize c / 2 ^ j = M
            rw [Bool.eq_iff_iff, beq_iff_eq, beq_iff_eq]
            omega)
          have HLN : Hid ((bitsTo zs m).length = m) := Lib.hid (bitsTo_length zs m)
          have hN := Lib.hid (nl_one wr V 4)
          have hO := Lib.hid (ho.out.alloc (.cells #[.bool V] 4))
          have hB := Lib.hid (hb.out.alloc hb.out.size (.cells #[.bool V] 4))
          have HML : Hid (m + 1 ≤ 140737488355328) := Lib.hid (by rw [hm.out]; omega)
          have hL1 : Hid ((bitsTo zs m).length + 1 ≤ maxLen) := Lib.hid (by rw [bitsTo_length]; have := HML.out; unfold maxLen; omega)
          have hL2 : Hid (((bitsTo zs m).length + 1) * 1 ≤ 140737488355328) := Lib.hid (by rw [bitsTo_length]; have := HML.out; omega)
          clear hbt hyb
          go_wp2_with (refine wpList_append_bools rfl (.tmp 16) (.tmp 26) 63 4 rfl Try.underlying63 1 infoB w.heap.size _ _ rfl hO.out _ 1 1 [V] rfl hN.out (HPC1.out _) hL1.out hL2.out hB.out.size ?_; intro v4 w4 hob4 hg4; have HO4 := Lib.hid hob4; have HB4 := Lib.hid (below_new_ol hB.out hO.out hg4 hB.out.size); clear hob4 hg4)
          obtain ⟨p5, c5, hv5, _, _, _, _⟩ := HO4.out.open
          have hL5 : (bitsTo zs m ++ [V]).length = m + 1 := by rw [List.length_append, HLN.out]; rfl
          rw [hL5] at hv5
          subst hv5
          have HO5 : Ol w4 w.heap.size 4 (.slice p5 (m + 1) c5) (bitsTo zs (m + 1)) := by rw [HV.out]; exact HO4.out
          refine ⟨?_, by simp [intOf]; omega⟩
          first
            | exact ⟨j + 1, m + 1, p5, c5, by omega, by go_num, rfl, Lib.hid (by have := hm.out; omega), Lib.hid HO5, HB4⟩
            | ((repeat apply Exists.intro); refine ⟨?_, rfl⟩; exact ⟨j + 1, m + 1, p5, c5, by omega, by go_num, rfl, Lib.hid (by have := hm.out; omega), Lib.hid HO5, HB4⟩)
        · obtain rfl : j = 8 := by omega
          go_wp2
          exact ⟨⟨k + 1, m, p2, c2, by omega, by go_num, rfl, Lib.hid (by have := hm.out; omega), ho, hb⟩, by simp [intOf] <;> omega⟩
    · obtain rfl : k = len := by omega
      go_wp2
      go_ret
      exact ⟨_, rfl, by have h := ho.out; rw [hn.out] at h; unfold bitsZ; rw [HL.out, ← hn.out]; rw [← hn.out] at h; exact h, hb.out⟩
end Go.Proofs.Ytfpelocemceffaa
