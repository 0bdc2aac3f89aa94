/- Layer 8: the statement NameBack, walked under what is said of package name. -/
import Derived.Test.YtjdggdkdlgaocaaDoorNamQ
namespace Go.Proofs.YtjdggdkdlgaocaaDoor
set_option linter.unusedVariables false
open Go.RowKit Go.Lib

theorem numP_pos {cs : List Int} (h : numP cs ≠ (0, 0)) : 0 < (numP cs).1 := by
  unfold numP at h ⊢
  by_cases h0 : nkind cs = 0
  · rw [if_pos h0] at h; exact absurd rfl h
  · rw [if_neg h0] at h ⊢
    by_cases hn : nnum (cs.drop (cs.length - 8)) = true ∧ 0 < nval (cs.drop (cs.length - 8))
    · rw [if_pos hn]
      have h2 := nkind_rng cs
      simp only
      omega
    · rw [if_neg hn] at h; exact absurd rfl h

set_option maxRecDepth 100000 in
set_option maxHeartbeats 1000000 in
theorem nameback_walk (hTag : TagOk) (hDisk : DiskOk) (hFile : FileOk) (hNumber : NumberOk) (k n : Int) (s : ByteArray) (w : World) (hk : InI64 k) (hn : InI64 n) (hs : s.size ≤ 140737488355328) (hLW : Lw w) :
    Calls Tryd.prog 5 #[.int .i64 k, .int .i64 n, .string s] w fun e w' => e = .returned (.bool true) ∧ Below w.heap.size w w' := by
  have HLW := Lib.hid hLW
  have HLV := Lib.hid fun W hW => nlives_any hTag hFile hNumber W hW
  have HNT : Hid (∀ W, Lw W → Calls Tryd.prog 11 #[.string ⟨#[112, 111, 105, 110, 116, 46, 116, 109, 112]⟩] W fun e w' => e = .returned (.tuple #[.int .i64 0, .int .i64 0]) ∧ Below W.heap.size W w') := Lib.hid fun W hW => by
    have h := hNumber ⟨#[112, 111, 105, 110, 116, 46, 116, 109, 112]⟩ W hW (by decide)
    rwa [show numP (numsOf ⟨#[112, 111, 105, 110, 116, 46, 116, 109, 112]⟩) = (0, 0) by decide] at h
  have HDT : Hid (∀ W, Calls Tryd.prog 8 #[.string ⟨#[112, 111, 105, 110, 116, 46, 116, 109, 112]⟩] W fun e w' => e = .returned (.bool true) ∧ Below W.heap.size W w') := Lib.hid fun W => by
    have h := hDisk ⟨#[112, 111, 105, 110, 116, 46, 116, 109, 112]⟩ W (by decide)
    rwa [show diskP (numsOf ⟨#[112, 111, 105, 110, 116, 46, 116, 109, 112]⟩) = true by decide] at h
  by_cases hg : filegood k n
  · have HFK := Lib.hid fun W hW => hFile k n W hW hk hn
    have hne : ((strOfNums (fileP k n)).toList == []) = false := by
      rw [text_test _ [] [] rfl, fileS_nums, decide_eq_false_iff_not]
      exact fun h => (fileP_nil.1 h) hg
    have HNF : Hid (∀ W, Lw W → Calls Tryd.prog 11 #[.string (strOfNums (fileP k n))] W fun e w' => e = .returned (.tuple #[.int .i64 k, .int .i64 n]) ∧ Below W.heap.size W w') := Lib.hid fun W hW => by
      have h := hNumber (strOfNums (fileP k n)) W hW (fileS_size k n)
      rwa [fileS_nums, numP_fileP hg] at h
    have HDF : Hid (∀ W, Calls Tryd.prog 8 #[.string (strOfNums (fileP k n))] W fun e w' => e = .returned (.bool true) ∧ Below W.heap.size W w') := Lib.hid fun W => by
      have h := hDisk (strOfNums (fileP k n)) W (fileS_size k n)
      rwa [fileS_nums, diskP_fileP hg] at h
    generalize strOfNums (fileP k n) = f at *
    by_cases h0 : numP (numsOf s) = (0, 0)
    · have HNS : Hid (∀ W, Lw W → Calls Tryd.prog 11 #[.string s] W fun e w' => e = .returned (.tuple #[.int .i64 0, .int .i64 0]) ∧ Below W.heap.size W w') := Lib.hid fun W hW => by
        have h := hNumber s W hW hs
        rwa [h0] at h
      clear hLW hTag hDisk hFile hNumber hs hk hn hg h0
      go_enter Tryd.func5, Tryd.ntmps5
      go_wp2_with fail
      refine (HFK.out _ HLW.out).mono ?_
      rintro e w1 ⟨rfl, hb1⟩
      have HB1 := Lib.hid (hb1)
      clear hb1
      go_wp2_with fail
      refine (HNF.out _ (HLW.out.later HB1.out)).mono ?_
      rintro e w2 ⟨rfl, hb2⟩
      have HB2 := Lib.hid (below_step HB1.out hb2)
      clear hb2 HB1
      go_wp2_with fail
      refine (HDF.out _).mono ?_
      rintro e w3 ⟨rfl, hb3⟩
      have HB3 := Lib.hid (below_step HB2.out hb3)
      clear hb3 HB2
      go_wp2_with fail
      refine (HNS.out _ (HLW.out.later HB3.out)).mono ?_
      rintro e w5 ⟨rfl, hb5⟩
      have HB5 := Lib.hid (below_step HB3.out hb5)
      clear hb5 HB3
      go_wp2_with fail
      refine (HNT.out _ (HLW.out.later HB5.out)).mono ?_
      rintro e w6 ⟨rfl, hb6⟩
      have HB6 := Lib.hid (below_step HB5.out hb6)
      clear hb6 HB5
      go_wp2_with fail
      refine (HDT.out _).mono ?_
      rintro e w7 ⟨rfl, hb7⟩
      have HB7 := Lib.hid (below_step HB6.out hb7)
      clear hb7 HB6
      go_wp2_with fail
      refine (HLV.out _ (HLW.out.later HB7.out)).mono ?_
      rintro e w8 ⟨rfl, hb8⟩
      have HB8 := Lib.hid (below_step HB7.out hb8)
      clear hb8 HB7
      go_wp2
      go_ret
      exact ⟨rfl, HB8.out⟩
    · have HNS := Lib.hid fun W hW => hNumber s W hW hs
      have HFS : Hid (∀ W, Lw W → Calls Tryd.prog 13 #[.int .i64 (numP (numsOf s)).1, .int .i64 (numP (numsOf s)).2] W fun e w' => e = .returned (.string s) ∧ Below W.heap.size W w') := Lib.hid fun W hW => by
        have h := hFile _ _ W hW (numP_rng (numsOf s)).1 (numP_rng (numsOf s)).2
        rwa [fileP_numP h0, strOfNums_numsOf] at h
      have hp := numP_pos h0
      have hpe : ((numP (numsOf s)).1 == 0) = false := by simp; omega
      generalize (numP (numsOf s)).1 = a at *
      generalize (numP (numsOf s)).2 = b at *
      clear hLW hTag hDisk hFile hNumber hs hk hn hg h0
      go_enter Tryd.func5, Tryd.ntmps5
      go_wp2_with fail
      refine (HFK.out _ HLW.out).mono ?_
      rintro e w1 ⟨rfl, hb1⟩
      have HB1 := Lib.hid (hb1)
      clear hb1
      go_wp2_with fail
      refine (HNF.out _ (HLW.out.later HB1.out)).mono ?_
      rintro e w2 ⟨rfl, hb2⟩
      have HB2 := Lib.hid (below_step HB1.out hb2)
      clear hb2 HB1
      go_wp2_with fail
      refine (HDF.out _).mono ?_
      rintro e w3 ⟨rfl, hb3⟩
      have HB3 := Lib.hid (below_step HB2.out hb3)
      clear hb3 HB2
      go_wp2_with fail
      refine (HNS.out _ (HLW.out.later HB3.out)).mono ?_
      rintro e w5 ⟨rfl, hb5⟩
      have HB5 := Lib.hid (below_step HB3.out hb5)
      clear hb5 HB3
      go_wp2_with fail
      refine (HNT.out _ (HLW.out.later HB5.out)).mono ?_
      rintro e w6 ⟨rfl, hb6⟩
      have HB6 := Lib.hid (below_step HB5.out hb6)
      clear hb6 HB5
      go_wp2_with fail
      refine (HFS.out _ (HLW.out.later HB6.out)).mono ?_
      rintro e w9 ⟨rfl, hb9⟩
      have HB9 := Lib.hid (below_step HB6.out hb9)
      clear hb9 HB6
      go_wp2_with fail
      refine (HDT.out _).mono ?_
      rintro e w7 ⟨rfl, hb7⟩
      have HB7 := Lib.hid (below_step HB9.out hb7)
      clear hb7 HB9
      go_wp2_with fail
      refine (HLV.out _ (HLW.out.later HB7.out)).mono ?_
      rintro e w8 ⟨rfl, hb8⟩
      have HB8 := Lib.hid (below_step HB7.out hb8)
      clear hb8 HB7
      go_wp2
      go_ret
      exact ⟨rfl, HB8.out⟩
  · have HFK : Hid (∀ W, Lw W → Calls Tryd.prog 13 #[.int .i64 k, .int .i64 n] W fun e w' => e = .returned (.string ⟨#[]⟩) ∧ Below W.heap.size W w') := Lib.hid fun W hW => by
      have h := hFile k n W hW hk hn
      rw [fileP_bad hg] at h
      exact h
    by_cases h0 : numP (numsOf s) = (0, 0)
    · have HNS : Hid (∀ W, Lw W → Calls Tryd.prog 11 #[.string s] W fun e w' => e = .returned (.tuple #[.int .i64 0, .int .i64 0]) ∧ Below W.heap.size W w') := Lib.hid fun W hW => by
        have h := hNumber s W hW hs
        rwa [h0] at h
      clear hLW hTag hDisk hFile hNumber hs hk hn hg h0
      go_enter Tryd.func5, Tryd.ntmps5
      go_wp2_with fail
      refine (HFK.out _ HLW.out).mono ?_
      rintro e w1 ⟨rfl, hb1⟩
      have HB1 := Lib.hid (hb1)
      clear hb1
      go_wp2_with fail
      refine (HNS.out _ (HLW.out.later HB1.out)).mono ?_
      rintro e w5 ⟨rfl, hb5⟩
      have HB5 := Lib.hid (below_step HB1.out hb5)
      clear hb5 HB1
      go_wp2_with fail
      refine (HNT.out _ (HLW.out.later HB5.out)).mono ?_
      rintro e w6 ⟨rfl, hb6⟩
      have HB6 := Lib.hid (below_step HB5.out hb6)
      clear hb6 HB5
      go_wp2_with fail
      refine (HDT.out _).mono ?_
      rintro e w7 ⟨rfl, hb7⟩
      have HB7 := Lib.hid (below_step HB6.out hb7)
      clear hb7 HB6
      go_wp2_with fail
      refine (HLV.out _ (HLW.out.later HB7.out)).mono ?_
      rintro e w8 ⟨rfl, hb8⟩
      have HB8 := Lib.hid (below_step HB7.out hb8)
      clear hb8 HB7
      go_wp2
      go_ret
      exact ⟨rfl, HB8.out⟩
    · have HNS := Lib.hid fun W hW => hNumber s W hW hs
      have HFS : Hid (∀ W, Lw W → Calls Tryd.prog 13 #[.int .i64 (numP (numsOf s)).1, .int .i64 (numP (numsOf s)).2] W fun e w' => e = .returned (.string s) ∧ Below W.heap.size W w') := Lib.hid fun W hW => by
        have h := hFile _ _ W hW (numP_rng (numsOf s)).1 (numP_rng (numsOf s)).2
        rwa [fileP_numP h0, strOfNums_numsOf] at h
      have hp := numP_pos h0
      have hpe : ((numP (numsOf s)).1 == 0) = false := by simp; omega
      generalize (numP (numsOf s)).1 = a at *
      generalize (numP (numsOf s)).2 = b at *
      clear hLW hTag hDisk hFile hNumber hs hk hn hg h0
      go_enter Tryd.func5, Tryd.ntmps5
      go_wp2_with fail
      refine (HFK.out _ HLW.out).mono ?_
      rintro e w1 ⟨rfl, hb1⟩
      have HB1 := Lib.hid (hb1)
      clear hb1
      go_wp2_with fail
      refine (HNS.out _ (HLW.out.later HB1.out)).mono ?_
      rintro e w5 ⟨rfl, hb5⟩
      have HB5 := Lib.hid (below_step HB1.out hb5)
      clear hb5 HB1
      go_wp2_with fail
      refine (HNT.out _ (HLW.out.later HB5.out)).mono ?_
      rintro e w6 ⟨rfl, hb6⟩
      have HB6 := Lib.hid (below_step HB5.out hb6)
      clear hb6 HB5
      go_wp2_with fail
      refine (HFS.out _ (HLW.out.later HB6.out)).mono ?_
      rintro e w9 ⟨rfl, hb9⟩
      have HB9 := Lib.hid (below_step HB6.out hb9)
      clear hb9 HB6
      go_wp2_with fail
      refine (HDT.out _).mono ?_
      rintro e w7 ⟨rfl, hb7⟩
      have HB7 := Lib.hid (below_step HB9.out hb7)
      clear hb7 HB9
      go_wp2_with fail
      refine (HLV.out _ (HLW.out.later HB7.out)).mono ?_
      rintro e w8 ⟨rfl, hb8⟩
      have HB8 := Lib.hid (below_step HB7.out hb8)
      clear hb8 HB7
      go_wp2
      go_ret
      exact ⟨rfl, HB8.out⟩
end Go.Proofs.YtjdggdkdlgaocaaDoor
