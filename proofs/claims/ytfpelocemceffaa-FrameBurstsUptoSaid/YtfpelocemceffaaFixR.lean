/- Layer 1, the reference: Put. -/
import Derived.Test.YtfpelocemceffaaFixV
namespace Go.Proofs.Ytfpelocemceffaa
set_option linter.unusedVariables false
open Go.RowKit Go.Lib

set_option maxRecDepth 100000 in
theorem rput_any (p : Option Addr) (len cap : Nat) (zs : List Int) (n : Int) (s : Nat) (w : World) (h : Bs w p len zs) (hpc : p = none → cap = 0) (hlen : len ≤ 140737488351232) (hs1 : 1 ≤ s) (hs2 : s ≤ 8) (hn0 : 0 ≤ n) (hn : n < 18446744073709551616) :
    Calls Try.prog 22 #[.slice p len cap, .int .u64 n, .int .i64 (s : Int)] w fun e w' => ∃ v, e = .returned v ∧ Ob w' w.heap.size 5 v (zs ++ putN n s) ∧ Below w.heap.size w w' := by
  have H := Lib.hid h
  have HPC := Lib.hid hpc
  have hs8 : (s : Int) ≤ 8 := by omega
  have hzl := h.len
  have HL0 : Hid (([] : List Int).length + len ≤ 140737488355328) := Lib.hid (by simp; omega)
  have HLK : Hid (∀ k, k < s → (zs ++ putN n k).length + 1 ≤ 140737488355328) := Lib.hid (fun k hk => by rw [List.length_append, putN_length]; omega)
  clear h hpc hzl
  go_enter Try.func22, Try.ntmps22
  go_wp2_with (refine wpList_append_bytes rfl _ _ 22 5 rfl Try.underlying22 info8 w.heap.size _ [] rfl (Ob.nil _ _ _) p len cap zs rfl H.out HPC.out HL0.out (Nat.le_refl _) ?_; intro v1 w1 ho1 hg1; rw [List.nil_append] at ho1; have HO1 := Lib.hid ho1; have HB1 : Hid (Below w.heap.size w w1) := Lib.hid (below_new (e := 5) (Below.refl _ _) (Ob.nil _ _ _) hg1 (Nat.le_refl _)); clear ho1 hg1)
  go_loopw [1, 7, 8] (fun nn v i wr => ∃ k : Nat, k ≤ s ∧ i = .int .i64 k ∧ nn = .int .u64 (n / 256 ^ k) ∧ Hid (Ob wr w.heap.size 5 v (zs ++ putN n k)) ∧ Hid (Below w.heap.size w wr)) (fun _ _ i _ => s - (intOf i).toNat)
  case atStart => exact ⟨0, Nat.zero_le _, rfl, by simp, by simpa [putN] using HO1, HB1⟩
  case round =>
    obtain ⟨k, hk, rfl, rfl, hob, hbl⟩ := hrel
    by_cases hlt : k < s
    · have hx : 0 ≤ n / 256 ^ k % 256 ∧ n / 256 ^ k % 256 < 256 := by omega
      have hq0 : 0 ≤ n / 256 ^ k := Int.ediv_nonneg hn0 (Int.le_of_lt (Int.pow_pos (by omega)))
      have hq1 : n / 256 ^ k < 18446744073709551616 := Int.lt_of_le_of_lt (Int.ediv_le_self _ hn0) hn
      have hgr : w.heap.size ≤ wr.heap.size := hbl.out.size
      have hlz := HLK.out k hlt
      obtain ⟨y, hy⟩ : ∃ y, n / 256 ^ k = y := ⟨_, rfl⟩
      rw [hy] at hx hq0 hq1 ⊢
      have HY := Lib.hid hy
      clear hy
      go_wp2_with (refine wpList_append_bytes rfl _ _ 22 5 rfl Try.underlying22 info8 w.heap.size _ (zs ++ putN n k) rfl (hob.out.alloc _) (some ⟨wr.heap.size, 0, none⟩) 1 1 [y % 256] rfl (bs_one wr _ _ hx.1 hx.2) (by simp) hlz (by simp; omega) ?_; intro v' w' hob' hg'; have HO' := Lib.hid hob'; have HB' := Lib.hid (below_new (hbl.out.alloc hgr _) (hob.out.alloc _) hg' (by simp; omega)); clear hob' hg')
      refine ⟨⟨k + 1, by omega, by go_num, ?_, ?_, HB'⟩, by simp [intOf]; omega⟩
      · congr 1
        rw [← HY.out, Int.pow_succ, Int.ediv_ediv_of_nonneg (Int.le_of_lt (Int.pow_pos (by omega)))]
      · rw [putN, ← List.append_assoc, HY.out]
        exact HO'
    · have e : k = s := by omega
      subst e
      go_wp2
      go_ret
      exact ⟨_, rfl, hob.out, hbl.out⟩
end Go.Proofs.Ytfpelocemceffaa
