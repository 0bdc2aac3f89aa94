/- Walks of the reference of layer 2: Put. -/
import Derived.Test.YtjlbeglnflcjmaaVarW1
namespace Go.Proofs.Ytjlbeglnflcjmaa
set_option linter.unusedVariables false
open Go.RowKit Go.Lib

set_option maxRecDepth 100000 in
theorem rvput_walk (p : Option Addr) (len cap : Nat) (zs : List Int) (n : Nat) (w : World) (h : Bs w p len zs) (hpc : p = none → cap = 0) (hlen : len ≤ 140737488351232) (hn : n < 18446744073709551616) :
    Calls Try.prog 8 #[.slice p len cap, .int .u64 n] w fun e w' => ∃ v, e = .returned v ∧ Ob w' w.heap.size 5 v (zs ++ vput n) ∧ Below w.heap.size w w' := by
  have H := Lib.hid h
  have HPC := Lib.hid hpc
  have h10 := vput_10 hn
  have HN := Lib.hid hn
  have HZL := Lib.hid h.len
  have hl0 : ([] : List Int).length + len ≤ 140737488355328 := by rw [List.length_nil]; omega
  clear h hn hpc
  go_enter Try.func8, Try.ntmps8
  go_wp2_with (refine wpList_append_bytes rfl _ _ 22 5 rfl Try.underlying22 info8 w.heap.size _ [] rfl (Ob.nil _ _ _) p len cap zs rfl H.out HPC.out hl0 (Nat.le_refl _) ?_; intro v1 w1 hob hg; have HO := Lib.hid hob; have HB := Lib.hid (below_new (Below.refl _ w) (Ob.nil w w.heap.size 5) hg (Nat.le_refl _)); clear hob hg)
  have hgs : w.heap.size ≤ w1.heap.size := HB.out.size
  go_loopw [1, 5] (fun nn v wr => ∃ (c : Nat) (pre : List Int), nn = .int .u64 c ∧ pre ++ vput c = vput n ∧ c ≤ n ∧ Hid (Ob wr w.heap.size 5 v (zs ++ pre)) ∧ Hid (Below w.heap.size w wr)) (fun nn _ _ => (intOf nn).toNat)
  case atStart => exact ⟨n, [], rfl, rfl, Nat.le_refl _, by simpa using HO, HB⟩
  case round =>
    obtain ⟨c, pre, rfl, hpre, hcn, hob, hbl⟩ := hrel
    have hgr : w.heap.size ≤ wr.heap.size := hbl.out.size
    have hpl : pre.length + (vput c).length = (vput n).length := by rw [← hpre, List.length_append]
    have hp := vput_length_pos c
    have hlz : (zs ++ pre).length + 1 ≤ 140737488355328 := by rw [List.length_append, HZL.out]; omega
    have hx : (0 : Int) ≤ (c : Int) % 128 := Int.emod_nonneg _ (by omega)
    have hx2 : (c : Int) % 128 < 128 := Int.emod_lt_of_pos _ (by omega)
    have hx3 : (0 : Int) ≤ (c : Int) / 128 := by omega
    have hq : IntKind.u64.wrap ((c : Int) / 128) = (c : Int) / 128 := by have := HN.out; exact wrap_u64_in (by omega) (by omega)
    by_cases hlt : c < 128
    · have h1 : decide ((0 : Int) < (c : Int) / 128) = false := by simp; omega
      have hl := vput_lo hlt
      have HL := Lib.hid hl
      have HP := Lib.hid hpre
      have hc1 : (c : Int) < 256 := by omega
      clear hl hpre hp hpl hlt h10 hcn
      go_wp2_with (refine wpList_append_bytes rfl _ _ 22 5 rfl Try.underlying22 info8 w.heap.size _ (zs ++ pre) rfl (hob.out.alloc _) (some ⟨wr.heap.size, 0, none⟩) 1 1 [(c : Int)] rfl (bs_one wr _ _ (by omega) (by omega)) (by simp) hlz (by simp; omega) ?_; intro v' w' hob' hg'; have HO' := Lib.hid hob'; have HB' := Lib.hid (below_new (hbl.out.alloc hgr _) (hob.out.alloc _) hg' (by simp; omega)); clear hob' hg')
      go_ret
      refine ⟨_, rfl, ?_, HB'.out⟩
      rw [← HP.out, HL.out, ← List.append_assoc]
      exact HO'.out
    · have h1 : decide ((0 : Int) < (c : Int) / 128) = true := by simp; omega
      have hl := vput_hi (n := c) (by omega)
      have HL := Lib.hid hl
      have HP := Lib.hid hpre
      have HC := Lib.hid hcn
      have H8 : Hid (128 ≤ c) := Lib.hid (by omega)
      clear hl hpre hp hpl hlt h10 hcn
      go_wp2_with (refine wpList_append_bytes rfl _ _ 22 5 rfl Try.underlying22 info8 w.heap.size _ (zs ++ pre) rfl (hob.out.alloc _) (some ⟨wr.heap.size, 0, none⟩) 1 1 [128 + (c : Int) % 128] rfl (bs_one wr _ _ (by omega) (by omega)) (by simp) hlz (by simp; omega) ?_; intro v' w' hob' hg'; have HO' := Lib.hid hob'; have HB' := Lib.hid (below_new (hbl.out.alloc hgr _) (hob.out.alloc _) hg' (by simp; omega)); clear hob' hg')
      refine ⟨⟨c / 128, pre ++ [128 + (c : Int) % 128], ?_, ?_, by have := HC.out; omega, ?_, HB'⟩, by have := H8.out; simp [intOf]; omega⟩
      · rw [Int.natCast_ediv]
        rfl
      · rw [← HP.out, HL.out, List.append_assoc, List.singleton_append]
        congr 2
        omega
      · rw [← List.append_assoc]
        exact HO'
end Go.Proofs.Ytjlbeglnflcjmaa
