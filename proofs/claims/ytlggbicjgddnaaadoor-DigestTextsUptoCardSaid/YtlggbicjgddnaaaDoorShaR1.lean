/- The walk of the reference's message. -/
import Derived.Test.YtlggbicjgddnaaaDoorShaE
namespace Go.Proofs.YtlggbicjgddnaaaDoor
set_option linter.unusedVariables false
open Go.RowKit Go.Lib

theorem be64_snoc (n j : Nat) (h : j < 8) : (be64 n).take (j + 1) = (be64 n).take j ++ [(((n / 2 ^ (8 * (7 - j))) % 256 : Nat) : Int)] := by
  match j, h with
  | 0, _ => rfl
  | 1, _ => rfl
  | 2, _ => rfl
  | 3, _ => rfl
  | 4, _ => rfl
  | 5, _ => rfl
  | 6, _ => rfl
  | 7, _ => rfl
theorem bs_one' (w : World) (x : Int) (t : TypeId) (h0 : 0 ≤ x) (h1 : x < 256) : Bs (w.alloc (.cells #[.int .u8 x] t)) (some ⟨w.heap.size, 0, none⟩) 1 [x] := bs_one w x t h0 h1
theorem msg_eq (zs : List Int) (z : Nat) (hz : z = padZ zs.length) : ((zs ++ [128]) ++ List.replicate z 0) ++ be64 (8 * zs.length) = msg zs := by
  subst hz
  unfold msg padOf
  simp

set_option maxHeartbeats 1000000 in
set_option maxRecDepth 100000 in
theorem message_any (p : Option Addr) (len cap : Nat) (zs : List Int) (w : World) (h : Bs w p len zs) (hpc : p = none → cap = 0) (hlen : len ≤ 1048576) :
    Calls Tryd.prog 41 #[.slice p len cap] w fun e w' => ∃ v, e = .returned v ∧ Ob w' w.heap.size 5 v (msg zs) ∧ Below w.heap.size w w' := by
  have H := Lib.hid h
  have HPC := Lib.hid hpc
  have HL : Hid (zs.length = len) := Lib.hid h.len
  have HON := Lib.hid (Ob.nil w w.heap.size 5)
  have HBY0 : Hid (([] : List Int).length + len ≤ 140737488355328) := Lib.hid (by simp; omega)
  have HPC1 : Hid (∀ g : Nat, (some (⟨g, 0, none⟩ : Addr)) = none → 1 = 0) := Lib.hid (by simp)
  clear h hpc
  go_enter Tryd.func41, Tryd.ntmps41
  go_wp2_with (first
    | (refine wpList_append_bytes rfl (.const (.slice none 0 0)) (.tmp 6) 22 5 rfl Tryd.underlying22 info8 w.heap.size _ [] rfl HON.out p len cap zs rfl H.out HPC.out HBY0.out (Nat.le_refl _) ?_; intro v1 w1 hob1 hg1; rw [List.nil_append] at hob1; have HO1 := Lib.hid hob1; have HB1 := Lib.hid (below_new (Below.refl w.heap.size w) HON.out hg1 (Nat.le_refl _)); clear hob1 hg1; have HN1 := Lib.hid (bs_one' w1 128 5 (by omega) (by omega)); have HO1' := Lib.hid (HO1.out.alloc (.cells #[.int .u8 128] 5)); have HB1' := Lib.hid (HB1.out.alloc HB1.out.size (.cells #[.int .u8 128] 5)); have HBY1 : Hid (zs.length + 1 ≤ 140737488355328) := Lib.hid (by rw [HL.out]; omega))
    | (refine wpList_append_bytes rfl (.tmp 7) (.tmp 8) 22 5 rfl Tryd.underlying22 info8 w.heap.size _ zs rfl HO1'.out _ 1 1 [128] rfl HN1.out (HPC1.out _) HBY1.out HB1'.out.size ?_; intro v2 w2 hob2 hg2; have HO2 := Lib.hid hob2; have HB2 := Lib.hid (below_new HB1'.out HO1'.out hg2 HB1'.out.size); clear hob2 hg2))
  clear HO1 HB1 HN1 HO1' HB1' HBY1 HON HBY0
  obtain ⟨z, hz⟩ : ∃ z, padZ len = z := ⟨_, rfl⟩
  have hz1 : z < 64 ∧ ∀ j, j ≤ z → ((len + 1 + j) % 64 = 56 ↔ j = z) := by
    rw [← hz]; unfold padZ
    refine ⟨by omega, fun j hj => ⟨fun h => ?_, fun h => ?_⟩⟩ <;> omega
  have HZ := Lib.hid hz
  have HZ1 := Lib.hid hz1
  clear hz hz1
  obtain ⟨p2, c2, hv2, _, _, _, _⟩ := HO2.out.open
  rw [List.length_append, HL.out] at hv2
  subst hv2
  go_loopw [3] (fun v wr => ∃ (j : Nat) (p' : Option Addr) (L c' : Nat), j ≤ z ∧ v = .slice p' L c' ∧ Hid (L = len + 1 + j) ∧ Hid (Ob wr w.heap.size 5 (.slice p' L c') ((zs ++ [128]) ++ List.replicate j 0)) ∧ Hid (Below w.heap.size w wr)) (fun v _ => len + 65 - lenOf v)
  case atStart => exact ⟨0, p2, _, c2, Nat.zero_le _, rfl, Lib.hid rfl, Lib.hid (by rw [List.replicate_zero, List.append_nil]; exact HO2.out), HB2⟩
  case round =>
    obtain ⟨j, p3, L, c3, hj, rfl, hL, hob, hbl⟩ := hrel
    by_cases hlt : j = z
    · have hm : ((L : Int) % 64 != 56) = false := by have := (HZ1.out.2 j hj).2 hlt; have := hL.out; simp; omega
      have hm' : ((L : Int).tmod 64 != 56) = false := by rw [Int.tmod_eq_emod_of_nonneg (by omega)]; exact hm
      subst hlt
      go_wp2
      have hpre : ((zs ++ [128]) ++ List.replicate j 0).length = L := by simp; have := HL.out; have := hL.out; omega
      have HPRE := Lib.hid hpre
      have HMS : Hid ((((zs ++ [128]) ++ List.replicate j 0) ++ be64 (8 * len)) = msg zs) := Lib.hid (by rw [← HL.out]; exact msg_eq zs j (by rw [HL.out, HZ.out]))
      have HLL : Hid (L ≤ 1048700) := Lib.hid (by have := hL.out; have := HZ1.out.1; omega)
      clear hpre hm hm' hL hj
      generalize (zs ++ [128]) ++ List.replicate j 0 = pre at *
      go_loopw [3, 5] (fun v i wr => ∃ (k : Nat) (p' : Option Addr) (c' : Nat), k ≤ 8 ∧ i = .int .i64 (7 - (k : Int)) ∧ v = .slice p' (L + k) c' ∧ Hid (Ob wr w.heap.size 5 (.slice p' (L + k) c') (pre ++ (be64 (8 * len)).take k)) ∧ Hid (Below w.heap.size w wr)) (fun _ i _ => (intOf i + 1).toNat)
      case atStart => exact ⟨0, p3, c3, by omega, rfl, rfl, Lib.hid (by rw [List.take_zero, List.append_nil]; exact hob.out), hbl⟩
      case round =>
        clear hob hbl
        obtain ⟨k, p4, c4, hk, rfl, rfl, hob, hbl⟩ := hrel
        by_cases hlt : k < 8
        · have hge : (k : Int) ≤ 7 := by omega
          have hxe : (len : Int) * 8 / 2 ^ (8 * (7 - k)) % 256 = (((8 * len) / 2 ^ (8 * (7 - k)) % 256 : Nat) : Int) := by
            rw [Nat.mul_comm 8 len, Int.natCast_emod, Int.natCast_ediv, Int.natCast_mul, Int.natCast_pow]
            rfl
          have HXE := Lib.hid hxe
          have hN := Lib.hid (bs_one' wr ((len : Int) * 8 / 2 ^ (8 * (7 - k)) % 256) 5 (by rw [hxe]; omega) (by rw [hxe]; omega))
          have hO := Lib.hid (hob.out.alloc (.cells #[.int .u8 ((len : Int) * 8 / 2 ^ (8 * (7 - k)) % 256)] 5))
          have hB := Lib.hid (hbl.out.alloc hbl.out.size (.cells #[.int .u8 ((len : Int) * 8 / 2 ^ (8 * (7 - k)) % 256)] 5))
          have hlk : (pre ++ (be64 (8 * len)).take k).length = L + k := by rw [List.length_append, HPRE.out, List.length_take, be64_length]; omega
          have HLK := Lib.hid hlk
          have HL1 : Hid ((pre ++ (be64 (8 * len)).take k).length + 1 ≤ 140737488355328) := Lib.hid (by rw [hlk]; have := HLL.out; omega)
          have HLT := Lib.hid hlt
          clear hxe hlk hlt
          go_wp2_with (refine wpList_append_bytes rfl (.tmp 25) (.tmp 32) 22 5 rfl Tryd.underlying22 info8 w.heap.size _ _ rfl hO.out _ 1 1 [(len : Int) * 8 / 2 ^ (8 * (7 - k)) % 256] rfl hN.out (HPC1.out _) HL1.out hB.out.size ?_; intro v4 w4 hob4 hg4; have HO4 := Lib.hid hob4; have HB4 := Lib.hid (below_new hB.out hO.out hg4 hB.out.size); clear hob4 hg4)
          obtain ⟨p5, c5, hv5, _, _, _, _⟩ := HO4.out.open
          have hL5 : ((pre ++ (be64 (8 * len)).take k) ++ [(len : Int) * 8 / 2 ^ (8 * (7 - k)) % 256]).length = L + (k + 1) := by rw [List.length_append, HLK.out]; rfl
          rw [hL5] at hv5
          subst hv5
          have hlt := HLT.out
          have HO5 : Ob w4 w.heap.size 5 (.slice p5 (L + (k + 1)) c5) (pre ++ (be64 (8 * len)).take (k + 1)) := by
            have h := HO4.out
            rw [HXE.out, List.append_assoc, ← be64_snoc (8 * len) k hlt] at h
            exact h
          refine ⟨?_, by simp [intOf]; omega⟩
          first
            | exact ⟨k + 1, p5, c5, by omega, by go_num, rfl, Lib.hid HO5, HB4⟩
            | ((repeat apply Exists.intro); refine ⟨?_, rfl⟩; exact ⟨k + 1, p5, c5, by omega, by go_num, rfl, Lib.hid HO5, HB4⟩)
        · obtain rfl : k = 8 := by omega
          have hge : ¬ ((8 : Nat) : Int) ≤ 7 := by omega
          go_wp2
          go_ret
          refine ⟨_, rfl, ?_, hbl.out⟩
          have h := hob.out
          rw [List.take_of_length_le (by rw [be64_length]; omega), HMS.out] at h
          exact h
    · have hm : ((L : Int) % 64 != 56) = true := by have h1 : (len + 1 + j) % 64 ≠ 56 := fun h => hlt ((HZ1.out.2 j hj).1 h); have := hL.out; simp; omega
      have hm' : ((L : Int).tmod 64 != 56) = true := by rw [Int.tmod_eq_emod_of_nonneg (by omega)]; exact hm
      have hl1 : ((zs ++ [128]) ++ List.replicate j 0).length + 1 ≤ 140737488355328 := by simp; have := HL.out; have := HZ1.out.1; omega
      have hN := Lib.hid (bs_one' wr 0 5 (by omega) (by omega))
      have hO := Lib.hid (hob.out.alloc (.cells #[.int .u8 0] 5))
      have hB := Lib.hid (hbl.out.alloc hbl.out.size (.cells #[.int .u8 0] 5))
      have HL1 := Lib.hid hl1
      have HJ := Lib.hid (show j + 1 ≤ z by omega)
      clear hl1 hlt
      go_wp2_with (refine wpList_append_bytes rfl (.tmp 14) (.tmp 15) 22 5 rfl Tryd.underlying22 info8 w.heap.size _ _ rfl hO.out _ 1 1 [0] rfl hN.out (HPC1.out _) HL1.out hB.out.size ?_; intro v4 w4 hob4 hg4; have HO4 := Lib.hid hob4; have HB4 := Lib.hid (below_new hB.out hO.out hg4 hB.out.size); clear hob4 hg4)
      obtain ⟨p4, c4, hv4, _, _, _, _⟩ := HO4.out.open
      have hL4 : ((zs ++ [128]) ++ List.replicate j 0 ++ [0]).length = L + 1 := by simp; have := HL.out; have := hL.out; omega
      rw [hL4] at hv4
      subst hv4
      have hL0 := hL.out
      have hJ0 := HJ.out
      have hz0 := HZ1.out.1
      refine ⟨?_, by simp [lenOf]; omega⟩
      first
        | exact ⟨j + 1, p4, L + 1, c4, HJ.out, rfl, Lib.hid (by omega), Lib.hid (by rw [List.replicate_succ', ← List.append_assoc]; exact HO4.out), HB4⟩
        | ((repeat apply Exists.intro); refine ⟨?rel, rfl⟩; exact ⟨j + 1, p4, L + 1, c4, HJ.out, rfl, Lib.hid (by omega), Lib.hid (by rw [List.replicate_succ', ← List.append_assoc]; exact HO4.out), HB4⟩)
end Go.Proofs.YtlggbicjgddnaaaDoor
