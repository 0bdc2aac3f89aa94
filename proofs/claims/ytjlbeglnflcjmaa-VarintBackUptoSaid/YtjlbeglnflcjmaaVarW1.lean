/- Walks of package varint and its reference: extended, Size, Put. -/
import Derived.Test.YtjlbeglnflcjmaaSame
import Derived.Test.YtjlbeglnflcjmaaVarP
namespace Go.Proofs.Ytjlbeglnflcjmaa
set_option linter.unusedVariables false
open Go.RowKit Go.Lib

theorem vextended_any (p : Option Addr) (len cap : Nat) (zs : List Int) (m : Nat) (w : World) (h : Bs w p len zs) (hlen : len ≤ 140737488351232) (hm : m ≤ 300) :
    Calls Try.prog 13 #[.slice p len cap, .int .i64 m] w fun e w' => ∃ g, e = .returned (.slice (some ⟨g, 0, none⟩) len (len + m)) ∧ Ob w' w.heap.size 5 (.slice (some ⟨g, 0, none⟩) len (len + m)) zs ∧ Below w.heap.size w w' := by
  have H := Lib.hid h
  clear h
  go_enter Try.func13, Try.ntmps13
  go_wp2_with (first | (refine wpList_make_bytes _ rfl _ _ 22 5 rfl Try.underlying22 info8 .i64 .i64 _ _ len (len + m) rfl rfl rfl (by omega) (by omega) (by omega) ?_; intro w1 hob1 hg1; have hb1 := below_none hg1; have hs1 : w.heap.size ≤ w1.heap.size := hb1.size; have HB := Lib.hid hb1; have HO := Lib.hid hob1; clear hb1 hob1 hg1) | (refine wpList_copy_bytes rfl _ _ 22 22 5 rfl Try.underlying22 size8 w.heap.size w.heap.size len (len + m) cap p zs (List.replicate len 0) rfl HO.out rfl (H.out.later HB.out) ?_; intro w2 hob2 hg2))
  go_ret
  exact ⟨w.heap.size, rfl, hob2, HB.out.grown hg2 hs1 (fun k hk => by simp at hk; omega)⟩

theorem vsize_any (n : Nat) (w : World) (hn : n < 18446744073709551616) :
    Calls Try.prog 9 #[.int .u64 n] w fun e w' => e = .returned (.int .i64 ((vput n).length : Nat)) ∧ w = w' := by
  have H10 := vput_10 hn
  have HN := Lib.hid hn
  clear hn
  go_enter Try.func9, Try.ntmps9
  go_wp2
  go_loop [0, 3] (fun m i => ∃ k c : Nat, m = .int .u64 c ∧ i = .int .i64 ((k + 1 : Nat) : Int) ∧ k + (vput c).length = (vput n).length ∧ c ≤ n) (fun m _ => (intOf m).toNat)
  case atStart => exact ⟨0, n, rfl, rfl, by omega, Nat.le_refl _⟩
  case round =>
    obtain ⟨k, c, rfl, rfl, hk, hc⟩ := hrel
    have hp := vput_length_pos c
    by_cases hlt : c < 128
    · have hl := vput_lo hlt
      have HK := Lib.hid hk
      have h1 : decide ((128 : Int) ≤ c) = false := by simp; omega
      have HL := Lib.hid hl
      clear hk hl hc hp hlt H10
      go_wp2
      go_ret
      refine ⟨ret_int ?_, rfl⟩
      have e1 := HL.out
      have e2 := HK.out
      rw [e1, List.length_cons, List.length_nil] at e2
      omega
    · have hl := vput_hi (n := c) (by omega)
      have HK := Lib.hid hk
      have h1 : 128 ≤ (c : Int) := by omega
      have hk10 : k ≤ 9 := by omega
      have HC := Lib.hid hc
      have HL := Lib.hid hl
      clear hk hl hc hp hlt
      go_wp2
      refine ⟨⟨k + 1, c / 128, by rw [Int.natCast_ediv]; rfl, by go_num, ?_, by have := HC.out; omega⟩, by simp [intOf]; omega⟩
      have e1 := HL.out
      have e2 := HK.out
      rw [e1, List.length_cons] at e2
      omega

theorem vput_walk (p : Option Addr) (len cap : Nat) (zs : List Int) (n : Nat) (w : World) (h : Bs w p len zs) (hlen : len ≤ 140737488351232) (hn : n < 18446744073709551616) :
    Calls Try.prog 7 #[.slice p len cap, .int .u64 n] w fun e w' => ∃ v, e = .returned v ∧ Ob w' w.heap.size 5 v (zs ++ vput n) ∧ Below w.heap.size w w' := by
  have H := Lib.hid h
  have h10 := vput_10 hn
  have HN := Lib.hid hn
  have HZL := Lib.hid h.len
  clear h hn
  go_enter Try.func7, Try.ntmps7
  go_wp2_with (first | (go_at_call 9; refine (vsize_any _ _ HN.out).mono ?_; rintro e w' ⟨rfl, rfl⟩) | (go_at_call 13; refine (vextended_any _ _ _ zs _ _ H.out hlen (by omega)).mono ?_; rintro e w1 ⟨g, rfl, hob, hb⟩; have HO := Lib.hid hob; have HB := Lib.hid hb; clear hob hb))
  have hgs : w.heap.size ≤ w1.heap.size := HB.out.size
  go_loopw [1, 5] (fun nn v wr => ∃ (c : Nat) (pre : List Int), nn = .int .u64 c ∧ pre ++ vput c = vput n ∧ c ≤ n ∧ Hid (Ob wr w.heap.size 5 v (zs ++ pre)) ∧ Hid (Below w.heap.size w wr)) (fun nn _ _ => (intOf nn).toNat)
  case atStart => exact ⟨n, [], rfl, rfl, Nat.le_refl _, by simpa using HO, HB⟩
  case round =>
    obtain ⟨c, pre, rfl, hpre, hcn, hob, hbl⟩ := hrel
    have hgr : w.heap.size ≤ wr.heap.size := hbl.out.size
    have hpl : pre.length + (vput c).length = (vput n).length := by rw [← hpre, List.length_append]
    have hp := vput_length_pos c
    have hlz : (zs ++ pre).length + 1 ≤ 140737488355328 := by rw [List.length_append, HZL.out]; omega
    have hx : (0 : Int) ≤ (c : Int) % 128 := Int.emod_nonneg _ (by omega)
    have hx2 : (c : Int) % 128 < 128 := Int.emod_lt_of_pos _ (by omega)
    by_cases hlt : c < 128
    · have h1 : decide ((128 : Int) ≤ c) = false := by simp; omega
      have hl := vput_lo hlt
      have HL := Lib.hid hl
      have HP := Lib.hid hpre
      have hc1 : (c : Int) < 256 := by omega
      clear hl hpre hp hpl hlt h10 hcn
      go_wp2_with (refine wpList_append_bytes rfl _ _ 22 5 rfl Try.underlying22 info8 w.heap.size _ (zs ++ pre) rfl (hob.out.alloc _) (some ⟨wr.heap.size, 0, none⟩) 1 1 [(c : Int)] rfl (bs_one wr _ _ (by omega) (by omega)) (by simp) hlz (by simp; omega) ?_; intro v' w' hob' hg'; have HO' := Lib.hid hob'; have HB' := Lib.hid (below_new (hbl.out.alloc hgr _) (hob.out.alloc _) hg' (by simp; omega)); clear hob' hg')
      go_ret
      refine ⟨_, rfl, ?_, HB'.out⟩
      rw [← HP.out, HL.out, ← List.append_assoc]
      exact HO'.out
    · have h1 : 128 ≤ (c : Int) := by omega
      have hl := vput_hi (n := c) (by omega)
      have HL := Lib.hid hl
      have HP := Lib.hid hpre
      have HC := Lib.hid hcn
      clear hl hpre hp hpl hlt h10 hcn
      go_wp2_with (refine wpList_append_bytes rfl _ _ 22 5 rfl Try.underlying22 info8 w.heap.size _ (zs ++ pre) rfl (hob.out.alloc _) (some ⟨wr.heap.size, 0, none⟩) 1 1 [(c : Int) % 128 + 128] rfl (bs_one wr _ _ (by omega) (by omega)) (by simp) hlz (by simp; omega) ?_; intro v' w' hob' hg'; have HO' := Lib.hid hob'; have HB' := Lib.hid (below_new (hbl.out.alloc hgr _) (hob.out.alloc _) hg' (by simp; omega)); clear hob' hg')
      refine ⟨⟨c / 128, pre ++ [(c : Int) % 128 + 128], by rw [Int.natCast_ediv]; rfl, ?_, by have := HC.out; omega, ?_, HB'⟩, by simp [intOf]; omega⟩
      · rw [← HP.out, HL.out, List.append_assoc]
        congr 1
      · rw [← List.append_assoc]
        exact HO'
end Go.Proofs.Ytjlbeglnflcjmaa
