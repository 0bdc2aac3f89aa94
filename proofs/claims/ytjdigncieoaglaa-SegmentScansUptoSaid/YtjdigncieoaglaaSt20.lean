/- Walks of package fixed: extended, Put; Layer 1, the reference: Put; Walks of package fixed: PutText -/
import Derived.Test.YtjdigncieoaglaaSt4
import Derived.Test.YtjdigncieoaglaaSt8
import Derived.Test.YtjdigncieoaglaaSt19
set_option linter.unusedSimpArgs false
set_option linter.unusedVariables false
namespace Go.Proofs.Ytjdigncieoaglaa
set_option linter.unusedVariables false
open Go.RowKit Go.Lib

theorem extended_any (p : Option Addr) (len cap : Nat) (zs : List Int) (mi : Int) (m : Nat) (hmi : mi = m) (w : World) (h : Bs w p len zs) (hlen : len ≤ 140737488351232) (hm : m ≤ 300) :
    Calls Try.prog 65 #[.slice p len cap, .int .i64 mi] w fun e w' => ∃ g, e = .returned (.slice (some ⟨g, 0, none⟩) len (len + m)) ∧ Ob w' w.heap.size 5 (.slice (some ⟨g, 0, none⟩) len (len + m)) zs ∧ Below w.heap.size w w' := by
  subst hmi
  have H := Lib.hid h
  clear h
  go_enter Try.func65, Try.ntmps65
  go_wp2_with (first | (refine wpList_make_bytes _ rfl _ _ 23 5 rfl Try.underlying23 info8 .i64 .i64 _ _ len (len + m) rfl rfl rfl (by omega) (by omega) (by omega) ?_; intro w1 hob1 hg1; have hb1 := below_none hg1; have hs1 : w.heap.size ≤ w1.heap.size := hb1.size; have HB := Lib.hid hb1; have HO := Lib.hid hob1; clear hb1 hob1 hg1) | (refine wpList_copy_bytes rfl _ _ 23 23 5 rfl Try.underlying23 size8 w.heap.size w.heap.size len (len + m) cap p zs (List.replicate len 0) rfl HO.out rfl (H.out.later HB.out) ?_; intro w2 hob2 hg2))
  go_ret
  exact ⟨w.heap.size, rfl, hob2, HB.out.grown hg2 hs1 (fun k hk => by simp at hk; omega)⟩

theorem put_walk (p : Option Addr) (len cap : Nat) (zs : List Int) (n : Int) (s : Nat) (w : World) (h : Bs w p len zs) (hlen : len ≤ 140737488351232) (hs1 : 1 ≤ s) (hs2 : s ≤ 8) (hn0 : 0 ≤ n) (hn : n < 18446744073709551616) :
    Calls Try.prog 51 #[.slice p len cap, .int .u64 n, .int .i64 s] w fun e w' => ∃ v, e = .returned v ∧ Ob w' w.heap.size 5 v (zs ++ putN n s) ∧ Below w.heap.size w w' := by
  have H := Lib.hid h
  have hi : isSizeB s = true := by simp [isSizeB]; omega
  clear h
  go_enter Try.func51, Try.ntmps51
  go_wp2_with (first | (go_at_call 66; refine (isSize_any _ _).mono ?_; rintro e w' ⟨rfl, rfl⟩) | (go_at_call 65; refine (extended_any _ _ _ zs _ s rfl _ H.out hlen (by omega)).mono ?_; rintro e w1 ⟨g, rfl, hob, hb⟩; have HO := Lib.hid hob; have HB := Lib.hid hb; clear hob hb))
  have hgs : w.heap.size ≤ w1.heap.size := HB.out.size
  go_loopw [1, 7, 17] (fun nn v i wr => ∃ k : Nat, k ≤ s ∧ i = .int .i64 k ∧ nn = .int .u64 (n / 256 ^ k) ∧ Hid (Ob wr w.heap.size 5 v (zs ++ putN n k)) ∧ Hid (Below w.heap.size w wr)) (fun _ _ i _ => s - (intOf i).toNat)
  case atStart => exact ⟨0, Nat.zero_le _, rfl, by simp, by simpa [putN] using HO, HB⟩
  case round =>
    obtain ⟨k, hk, rfl, rfl, hob, hbl⟩ := hrel
    by_cases hlt : k < s
    · have hx : 0 ≤ n / 256 ^ k % 256 ∧ n / 256 ^ k % 256 < 256 := by omega
      have hgr : w.heap.size ≤ wr.heap.size := hbl.out.size
      have hpl : (putN n k).length = k := putN_length n k
      have hzl : zs.length = len := H.out.len
      have hlz : (zs ++ putN n k).length + 1 ≤ 140737488355328 := by rw [List.length_append]; omega
      clear hpl hzl
      go_wp2_with (refine wpList_append_bytes rfl _ _ 23 5 rfl Try.underlying23 info8 w.heap.size _ (zs ++ putN n k) rfl (hob.out.alloc _) (some ⟨wr.heap.size, 0, none⟩) 1 1 [n / 256 ^ k % 256] rfl (bs_one wr _ _ hx.1 hx.2) (by simp) hlz (by simp; omega) ?_; intro v' w' hob' hg'; have HO' := Lib.hid hob'; have HB' := Lib.hid (below_new (hbl.out.alloc hgr _) (hob.out.alloc _) hg' (by simp; omega)); clear hob' hg')
      refine ⟨⟨k + 1, by omega, by go_num, ?_, ?_, HB'⟩, by simp [intOf]; omega⟩
      · congr 1
        rw [Int.pow_succ, Int.ediv_ediv_of_nonneg (Int.le_of_lt (Int.pow_pos (by omega)))]
      · rw [putN, ← List.append_assoc]
        exact HO'
    · have e : k = s := by omega
      subst e
      go_wp2
      go_ret
      exact ⟨_, rfl, hob, hbl⟩

def putS (n s : Int) : List Int := if isSizeB s then putN n s.toNat else []

theorem put_any (p : Option Addr) (len cap : Nat) (zs : List Int) (n s : Int) (w : World) (h : Bs w p len zs) (hlen : len ≤ 140737488351232) (hn0 : 0 ≤ n) (hn : n < 18446744073709551616) :
    Calls Try.prog 51 #[.slice p len cap, .int .u64 n, .int .i64 s] w fun e w' => ∃ v, e = .returned v ∧ Ob w' w.heap.size 5 v (zs ++ putS n s) ∧ Below w.heap.size w w' := by
  by_cases hs : isSizeB s = true
  · have hs' := hs
    simp only [isSizeB, Bool.and_eq_true, decide_eq_true_eq] at hs'
    obtain ⟨m, rfl⟩ := Int.eq_ofNat_of_zero_le (show 0 ≤ s by omega)
    rw [putS, if_pos hs]
    exact put_walk p len cap zs n m w h hlen (by omega) (by omega) hn0 hn
  · rw [putS, if_neg hs]
    have hs' : isSizeB s = false := by simpa using hs
    have H := Lib.hid h
    clear h hs
    go_enter Try.func51, Try.ntmps51
    go_wp2_with (first | (go_at_call 66; refine (isSize_any _ _).mono ?_; rintro e w' ⟨rfl, rfl⟩) | (go_at_call 65; refine (extended_any _ _ _ zs _ 0 rfl _ H.out hlen (by omega)).mono ?_; rintro e w1 ⟨g, rfl, hob, hb⟩; have HO := Lib.hid hob; have HB := Lib.hid hb; clear hob hb))
    go_ret
    exact ⟨_, rfl, by simpa using HO.out, HB.out⟩
end Go.Proofs.Ytjdigncieoaglaa

namespace Go.Proofs.Ytjdigncieoaglaa
set_option linter.unusedVariables false
open Go.RowKit Go.Lib

set_option maxRecDepth 100000 in
theorem rput_any (p : Option Addr) (len cap : Nat) (zs : List Int) (n : Int) (s : Nat) (w : World) (h : Bs w p len zs) (hpc : p = none → cap = 0) (hlen : len ≤ 140737488351232) (hs1 : 1 ≤ s) (hs2 : s ≤ 8) (hn0 : 0 ≤ n) (hn : n < 18446744073709551616) :
    Calls Try.prog 31 #[.slice p len cap, .int .u64 n, .int .i64 (s : Int)] w fun e w' => ∃ v, e = .returned v ∧ Ob w' w.heap.size 5 v (zs ++ putN n s) ∧ Below w.heap.size w w' := by
  have H := Lib.hid h
  have HPC := Lib.hid hpc
  have hs8 : (s : Int) ≤ 8 := by omega
  have hzl := h.len
  have HL0 : Hid (([] : List Int).length + len ≤ 140737488355328) := Lib.hid (by simp; omega)
  have HLK : Hid (∀ k, k < s → (zs ++ putN n k).length + 1 ≤ 140737488355328) := Lib.hid (fun k hk => by rw [List.length_append, putN_length]; omega)
  clear h hpc hzl
  go_enter Try.func31, Try.ntmps31
  go_wp2_with (refine wpList_append_bytes rfl _ _ 23 5 rfl Try.underlying23 info8 w.heap.size _ [] rfl (Ob.nil _ _ _) p len cap zs rfl H.out HPC.out HL0.out (Nat.le_refl _) ?_; intro v1 w1 ho1 hg1; rw [List.nil_append] at ho1; have HO1 := Lib.hid ho1; have HB1 : Hid (Below w.heap.size w w1) := Lib.hid (below_new (e := 5) (Below.refl _ _) (Ob.nil _ _ _) hg1 (Nat.le_refl _)); clear ho1 hg1)
  go_loopw [1, 7, 8] (fun nn v i wr => ∃ k : Nat, k ≤ s ∧ i = .int .i64 k ∧ nn = .int .u64 (n / 256 ^ k) ∧ Hid (Ob wr w.heap.size 5 v (zs ++ putN n k)) ∧ Hid (Below w.heap.size w wr)) (fun _ _ i _ => s - (intOf i).toNat)
  case atStart => exact ⟨0, Nat.zero_le _, rfl, by simp, by simpa [putN] using HO1, HB1⟩
  case round =>
    obtain ⟨k, hk, rfl, rfl, hob, hbl⟩ := hrel
    by_cases hlt : k < s
    · have hx : 0 ≤ n / 256 ^ k % 256 ∧ n / 256 ^ k % 256 < 256 := by omega
      have hq0 : 0 ≤ n / 256 ^ k := Int.ediv_nonneg hn0 (Int.le_of_lt (Int.pow_pos (by omega)))
      have hq1 : n / 256 ^ k < 18446744073709551616 := Int.lt_of_le_of_lt (Int.ediv_le_self _ hn0) hn
      have hgr : w.heap.size ≤ wr.heap.size := hbl.out.size
      have hlz := HLK.out k hlt
      obtain ⟨y, hy⟩ : ∃ y, n / 256 ^ k = y := ⟨_, rfl⟩
      rw [hy] at hx hq0 hq1 ⊢
      have HY := Lib.hid hy
      clear hy
      go_wp2_with (refine wpList_append_bytes rfl _ _ 23 5 rfl Try.underlying23 info8 w.heap.size _ (zs ++ putN n k) rfl (hob.out.alloc _) (some ⟨wr.heap.size, 0, none⟩) 1 1 [y % 256] rfl (bs_one wr _ _ hx.1 hx.2) (by simp) hlz (by simp; omega) ?_; intro v' w' hob' hg'; have HO' := Lib.hid hob'; have HB' := Lib.hid (below_new (hbl.out.alloc hgr _) (hob.out.alloc _) hg' (by simp; omega)); clear hob' hg')
      refine ⟨⟨k + 1, by omega, by go_num, ?_, ?_, HB'⟩, by simp [intOf]; omega⟩
      · congr 1
        rw [← HY.out, Int.pow_succ, Int.ediv_ediv_of_nonneg (Int.le_of_lt (Int.pow_pos (by omega)))]
      · rw [putN, ← List.append_assoc, HY.out]
        exact HO'
    · have e : k = s := by omega
      subst e
      go_wp2
      go_ret
      exact ⟨_, rfl, hob.out, hbl.out⟩
end Go.Proofs.Ytjdigncieoaglaa

namespace Go.Proofs.Ytjdigncieoaglaa
set_option linter.unusedVariables false
open Go.RowKit Go.Lib

def textP (s : ByteArray) : List Int := if s.size ≤ 255 then (s.size : Int) :: numsOf s else []

theorem putText_any (p : Option Addr) (len cap : Nat) (zs : List Int) (s : ByteArray) (w : World) (h : Bs w p len zs) (hlen : len ≤ 140737488351232) (hsz : s.size ≤ maxLen) :
    Calls Try.prog 50 #[.slice p len cap, .string s] w fun e w' => ∃ v, e = .returned (.tuple #[v, .bool (decide (s.size ≤ 255))]) ∧ Ob w' w.heap.size 5 v (zs ++ textP s) ∧ Below w.heap.size w w' := by
  have H := Lib.hid h
  have hzl : zs.length = len := h.len
  unfold maxLen at hsz
  by_cases hs : s.size ≤ 255
  · have e1 : decide (s.size ≤ 255) = true := by simpa using hs
    rw [textP, if_pos hs, e1]
    have hx : (0 : Int) ≤ s.size ∧ (s.size : Int) < 256 := by omega
    have hlz : (zs).length + 1 ≤ 140737488355328 := by omega
    have hlz2 : (zs ++ [(s.size : Int)]).length + s.size ≤ 140737488355328 := by rw [List.length_append]; simp; omega
    clear h hzl e1
    go_enter Try.func50, Try.ntmps50
    go_wp2_with (first | (go_at_call 65; refine (extended_any _ _ _ zs _ (1 + s.size) (by omega) _ H.out hlen (by omega)).mono ?_; rintro e w1 ⟨g, rfl, hob, hb⟩; have hgr : w.heap.size ≤ w1.heap.size := hb.size; have HO := Lib.hid hob; have HB := Lib.hid hb; clear hob hb) | (refine wpList_append_bytes rfl _ _ 23 5 rfl Try.underlying23 info8 w.heap.size _ zs rfl (HO.out.alloc _) (some ⟨w1.heap.size, 0, none⟩) 1 1 [(s.size : Int)] rfl (bs_one w1 _ _ hx.1 hx.2) (by simp) hlz (by simp; omega) ?_; intro v2 w2 hob2 hg2; have HO2 := Lib.hid hob2; have HB2 := Lib.hid (below_new (HB.out.alloc hgr _) (HO.out.alloc _) hg2 (by simp; omega)); have hgr2 : w.heap.size ≤ w2.heap.size := HB2.out.size; clear hob2 hg2) | (refine wpList_append_text rfl _ _ 23 9 5 rfl Try.underlying23 Try.underlying9 info8 w.heap.size _ (zs ++ [(s.size : Int)]) rfl HO2.out s rfl hlz2 hgr2 ?_; intro v3 w3 hob3 hg3; have HO3 := Lib.hid hob3; have HB3 := Lib.hid (below_new HB2.out HO2.out hg3 hgr2); clear hob3 hg3))
    go_ret2
    exact ⟨_, rfl, by simpa using HO3.out, HB3.out⟩
  · have e1 : decide (s.size ≤ 255) = false := by simpa using hs
    rw [textP, if_neg hs, e1]
    clear h hzl e1
    go_enter Try.func50, Try.ntmps50
    go_wp2_with (go_at_call 65; refine (extended_any _ _ _ zs _ 0 rfl _ H.out hlen (by omega)).mono ?_; rintro e w1 ⟨g, rfl, hob, hb⟩; have HO := Lib.hid hob; have HB := Lib.hid hb; clear hob hb)
    go_ret2
    exact ⟨_, rfl, by simpa using HO.out, HB.out⟩
end Go.Proofs.Ytjdigncieoaglaa
