/- Walks of package fixed: extended, Put. -/
import Derived.Test.YtfpelocemceffaaFixW3
import Derived.Test.YtfpelocemceffaaFixN
import Derived.Test.YtfpelocemceffaaSame
namespace Go.Proofs.Ytfpelocemceffaa
set_option linter.unusedVariables false
open Go.RowKit Go.Lib

theorem extended_any (p : Option Addr) (len cap : Nat) (zs : List Int) (mi : Int) (m : Nat) (hmi : mi = m) (w : World) (h : Bs w p len zs) (hlen : len ≤ 140737488351232) (hm : m ≤ 300) :
    Calls Try.prog 34 #[.slice p len cap, .int .i64 mi] w fun e w' => ∃ g, e = .returned (.slice (some ⟨g, 0, none⟩) len (len + m)) ∧ Ob w' w.heap.size 5 (.slice (some ⟨g, 0, none⟩) len (len + m)) zs ∧ Below w.heap.size w w' := by
  subst hmi
  have H := Lib.hid h
  clear h
  go_enter Try.func34, Try.ntmps34
  go_wp2_with (first | (refine wpList_make_bytes _ rfl _ _ 22 5 rfl Try.underlying22 info8 .i64 .i64 _ _ len (len + m) rfl rfl rfl (by omega) (by omega) (by omega) ?_; intro w1 hob1 hg1; have hb1 := below_none hg1; have hs1 : w.heap.size ≤ w1.heap.size := hb1.size; have HB := Lib.hid hb1; have HO := Lib.hid hob1; clear hb1 hob1 hg1) | (refine wpList_copy_bytes rfl _ _ 22 22 5 rfl Try.underlying22 size8 w.heap.size w.heap.size len (len + m) cap p zs (List.replicate len 0) rfl HO.out rfl (H.out.later HB.out) ?_; intro w2 hob2 hg2))
  go_ret
  exact ⟨w.heap.size, rfl, hob2, HB.out.grown hg2 hs1 (fun k hk => by simp at hk; omega)⟩

theorem put_walk (p : Option Addr) (len cap : Nat) (zs : List Int) (n : Int) (s : Nat) (w : World) (h : Bs w p len zs) (hlen : len ≤ 140737488351232) (hs1 : 1 ≤ s) (hs2 : s ≤ 8) (hn0 : 0 ≤ n) (hn : n < 18446744073709551616) :
    Calls Try.prog 30 #[.slice p len cap, .int .u64 n, .int .i64 s] w fun e w' => ∃ v, e = .returned v ∧ Ob w' w.heap.size 5 v (zs ++ putN n s) ∧ Below w.heap.size w w' := by
  have H := Lib.hid h
  have hi : isSizeB s = true := by simp [isSizeB]; omega
  clear h
  go_enter Try.func30, Try.ntmps30
  go_wp2_with (first | (go_at_call 33; refine (isSize_any _ _).mono ?_; rintro e w' ⟨rfl, rfl⟩) | (go_at_call 34; refine (extended_any _ _ _ zs _ s rfl _ H.out hlen (by omega)).mono ?_; rintro e w1 ⟨g, rfl, hob, hb⟩; have HO := Lib.hid hob; have HB := Lib.hid hb; clear hob hb))
  have hgs : w.heap.size ≤ w1.heap.size := HB.out.size
  go_loopw [1, 7, 17] (fun nn v i wr => ∃ k : Nat, k ≤ s ∧ i = .int .i64 k ∧ nn = .int .u64 (n / 256 ^ k) ∧ Hid (Ob wr w.heap.size 5 v (zs ++ putN n k)) ∧ Hid (Below w.heap.size w wr)) (fun _ _ i _ => s - (intOf i).toNat)
  case atStart => exact ⟨0, Nat.zero_le _, rfl, by simp, by simpa [putN] using HO, HB⟩
  case round =>
    obtain ⟨k, hk, rfl, rfl, hob, hbl⟩ := hrel
    by_cases hlt : k < s
    · have hx : 0 ≤ n / 256 ^ k % 256 ∧ n / 256 ^ k % 256 < 256 := by omega
      have hgr : w.heap.size ≤ wr.heap.size := hbl.out.size
      have hpl : (putN n k).length = k := putN_length n k
      have hzl : zs.length = len := H.out.len
      have hlz : (zs ++ putN n k).length + 1 ≤ 140737488355328 := by rw [List.length_append]; omega
      clear hpl hzl
      go_wp2_with (refine wpList_append_bytes rfl _ _ 22 5 rfl Try.underlying22 info8 w.heap.size _ (zs ++ putN n k) rfl (hob.out.alloc _) (some ⟨wr.heap.size, 0, none⟩) 1 1 [n / 256 ^ k % 256] rfl (bs_one wr _ _ hx.1 hx.2) (by simp) hlz (by simp; omega) ?_; intro v' w' hob' hg'; have HO' := Lib.hid hob'; have HB' := Lib.hid (below_new (hbl.out.alloc hgr _) (hob.out.alloc _) hg' (by simp; omega)); clear hob' hg')
      refine ⟨⟨k + 1, by omega, by go_num, ?_, ?_, HB'⟩, by simp [intOf]; omega⟩
      · congr 1
        rw [Int.pow_succ, Int.ediv_ediv_of_nonneg (Int.le_of_lt (Int.pow_pos (by omega)))]
      · rw [putN, ← List.append_assoc]
        exact HO'
    · have e : k = s := by omega
      subst e
      go_wp2
      go_ret
      exact ⟨_, rfl, hob, hbl⟩

def putS (n s : Int) : List Int := if isSizeB s then putN n s.toNat else []

theorem put_any (p : Option Addr) (len cap : Nat) (zs : List Int) (n s : Int) (w : World) (h : Bs w p len zs) (hlen : len ≤ 140737488351232) (hn0 : 0 ≤ n) (hn : n < 18446744073709551616) :
    Calls Try.prog 30 #[.slice p len cap, .int .u64 n, .int .i64 s] w fun e w' => ∃ v, e = .returned v ∧ Ob w' w.heap.size 5 v (zs ++ putS n s) ∧ Below w.heap.size w w' := by
  by_cases hs : isSizeB s = true
  · have hs' := hs
    simp only [isSizeB, Bool.and_eq_true, decide_eq_true_eq] at hs'
    obtain ⟨m, rfl⟩ := Int.eq_ofNat_of_zero_le (show 0 ≤ s by omega)
    rw [putS, if_pos hs]
    exact put_walk p len cap zs n m w h hlen (by omega) (by omega) hn0 hn
  · rw [putS, if_neg hs]
    have hs' : isSizeB s = false := by simpa using hs
    have H := Lib.hid h
    clear h hs
    go_enter Try.func30, Try.ntmps30
    go_wp2_with (first | (go_at_call 33; refine (isSize_any _ _).mono ?_; rintro e w' ⟨rfl, rfl⟩) | (go_at_call 34; refine (extended_any _ _ _ zs _ 0 rfl _ H.out hlen (by omega)).mono ?_; rintro e w1 ⟨g, rfl, hob, hb⟩; have HO := Lib.hid hob; have HB := Lib.hid hb; clear hob hb))
    go_ret
    exact ⟨_, rfl, by simpa using HO.out, HB.out⟩
end Go.Proofs.Ytfpelocemceffaa
