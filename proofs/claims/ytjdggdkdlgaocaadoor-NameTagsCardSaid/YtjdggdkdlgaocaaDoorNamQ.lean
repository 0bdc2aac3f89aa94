/- Layer 8: lives and the three statements, walked under what is said of package name. -/
import Derived.Test.YtjdggdkdlgaocaaDoorNamN
namespace Go.Proofs.YtjdggdkdlgaocaaDoor
set_option linter.unusedVariables false
open Go.RowKit Go.Lib

def seg12 : List Int := [115, 101, 103, 45, 48, 48, 48, 48, 48, 48, 49, 50]
theorem numP_rng (cs : List Int) : InI64 (numP cs).1 ∧ InI64 (numP cs).2 := by
  by_cases h : numP cs = (0, 0)
  · rw [h]; unfold InI64; simp
  · unfold numP at h ⊢
    by_cases h0 : nkind cs = 0
    · rw [if_pos h0] at h; exact absurd rfl h
    · rw [if_neg h0] at h ⊢
      by_cases hn : nnum (cs.drop (cs.length - 8)) = true ∧ 0 < nval (cs.drop (cs.length - 8))
      · rw [if_pos hn]
        have h1 := nval_bd hn.1 (by rw [List.length_drop]; omega)
        have h2 := nkind_rng cs
        unfold InI64
        simp only
        omega
      · rw [if_neg hn] at h; exact absurd rfl h
theorem fileS_nums (k n : Int) : numsOf (strOfNums (fileP k n)) = fileP k n := numsOf_strOfNums (fileP_bytes k n)
theorem fileS_size (k n : Int) : (strOfNums (fileP k n)).size ≤ 140737488355328 := by
  have h := numsOf_length (strOfNums (fileP k n))
  rw [fileS_nums] at h
  rw [← h]
  unfold fileP
  split
  · rw [List.length_append]
    have h1 : (wrd k).length ≤ 6 := by unfold wrd; (repeat' split) <;> decide
    have h2 : (dig8 n).length = 8 := rfl
    omega
  · exact Nat.zero_le _
theorem in12 : InI64 1 ∧ InI64 12 := by unfold InI64; omega

set_option maxRecDepth 100000 in
theorem nlives_any (hTag : TagOk) (hFile : FileOk) (hNumber : NumberOk) (w : World) (hLW : Lw w) : Calls Tryd.prog 10 #[] w fun e w' => e = .returned (.bool true) ∧ Below w.heap.size w w' := by
  have HLW := Lib.hid hLW
  have HT : Hid (∀ W, Calls Tryd.prog 6 #[.string ⟨#[118, 49, 46, 48]⟩] W fun e w' => e = .returned (.bool true) ∧ Below W.heap.size W w') := Lib.hid fun W => by
    have h := hTag ⟨#[118, 49, 46, 48]⟩ W (by decide)
    rwa [show tagP (numsOf ⟨#[118, 49, 46, 48]⟩) = true by decide] at h
  have HN : Hid (∀ W, Lw W → Calls Tryd.prog 11 #[.string ⟨#[115, 101, 103, 45, 48, 48, 48, 48, 48, 48, 49, 50]⟩] W fun e w' => e = .returned (.tuple #[.int .i64 1, .int .i64 12]) ∧ Below W.heap.size W w') := Lib.hid fun W hW => by
    have h := hNumber ⟨#[115, 101, 103, 45, 48, 48, 48, 48, 48, 48, 49, 50]⟩ W hW (by decide)
    rwa [show numP (numsOf ⟨#[115, 101, 103, 45, 48, 48, 48, 48, 48, 48, 49, 50]⟩) = (1, 12) by decide] at h
  have HF : Hid (∀ W, Lw W → Calls Tryd.prog 13 #[.int .i64 1, .int .i64 12] W fun e w' => e = .returned (.string ⟨#[115, 101, 103, 45, 48, 48, 48, 48, 48, 48, 49, 50]⟩) ∧ Below W.heap.size W w') := Lib.hid fun W hW => by
    have h := hFile 1 12 W hW in12.1 in12.2
    rwa [show strOfNums (fileP 1 12) = ⟨#[115, 101, 103, 45, 48, 48, 48, 48, 48, 48, 49, 50]⟩ by apply numsOf_inj; rw [fileS_nums]; decide] at h
  clear hLW hTag hFile hNumber
  go_enter Tryd.func10, Tryd.ntmps10
  go_wp2_with fail
  refine (HN.out _ HLW.out).mono ?_
  rintro e w1 ⟨rfl, hb1⟩
  have HB1 := Lib.hid hb1
  clear hb1
  go_wp2_with fail
  refine (HF.out _ (HLW.out.later HB1.out)).mono ?_
  rintro e w2 ⟨rfl, hb2⟩
  have HB2 := Lib.hid (below_step HB1.out hb2)
  clear hb2 HB1
  go_wp2_with fail
  refine (HT.out _).mono ?_
  rintro e w3 ⟨rfl, hb3⟩
  have HB3 := Lib.hid (below_step HB2.out hb3)
  clear hb3 HB2
  go_wp2
  go_ret
  exact ⟨rfl, HB3.out⟩

set_option maxRecDepth 100000 in
theorem nametags_walk (hTag : TagOk) (hDisk : DiskOk) (hFile : FileOk) (hNumber : NumberOk) (s : ByteArray) (w : World) (hs : s.size ≤ 140737488355328) (hLW : Lw w) :
    Calls Tryd.prog 3 #[.string s] w fun e w' => e = .returned (.bool true) ∧ Below w.heap.size w w' := by
  have HLW := Lib.hid hLW
  have H1 := Lib.hid fun W => hTag s W hs
  have H2 := Lib.hid fun W => rtag_any s W hs
  have H3 := Lib.hid fun W => hDisk s W hs
  have H4 := Lib.hid fun W => rdisk_any s W hs
  have H5 := Lib.hid fun W hW => nlives_any hTag hFile hNumber W hW
  clear hLW hTag hDisk hFile hNumber
  generalize tagP (numsOf s) = a at *
  generalize diskP (numsOf s) = b at *
  cases a <;> cases b
  all_goals
    go_enter Tryd.func3, Tryd.ntmps3
    go_wp2_with fail
    refine (H1.out _).mono ?_
    rintro e w1 ⟨rfl, hb1⟩
    have HB1 := Lib.hid hb1
    clear hb1
    go_wp2_with fail
    refine (H2.out _).mono ?_
    rintro e w2 ⟨rfl, rfl⟩
    go_wp2_with fail
    refine (H3.out _).mono ?_
    rintro e w3 ⟨rfl, hb3⟩
    have HB3 := Lib.hid (below_step HB1.out hb3)
    clear hb3 HB1
    go_wp2_with fail
    refine (H4.out _).mono ?_
    rintro e w4 ⟨rfl, rfl⟩
    go_wp2_with fail
    refine (H5.out _ (HLW.out.later HB3.out)).mono ?_
    rintro e w5 ⟨rfl, hb5⟩
    have HB5 := Lib.hid (below_step HB3.out hb5)
    clear hb5 HB3
    go_wp2
    go_ret
    exact ⟨rfl, HB5.out⟩

set_option maxRecDepth 100000 in
theorem namefiles_walk (hTag : TagOk) (hFile : FileOk) (hNumber : NumberOk) (k n : Int) (s : ByteArray) (w : World) (hk : InI64 k) (hn : InI64 n) (hs : s.size ≤ 140737488355328) (hLW : Lw w) :
    Calls Tryd.prog 4 #[.int .i64 k, .int .i64 n, .string s] w fun e w' => e = .returned (.bool true) ∧ Below w.heap.size w w' := by
  have HLW := Lib.hid hLW
  have H1 := Lib.hid fun W hW => hNumber s W hW hs
  have H2 := Lib.hid fun W => rnumber_any s W hs
  have H3 := Lib.hid fun W hW => hFile k n W hW hk hn
  have H4 := Lib.hid fun W => rfile_any k n W hk hn
  have H5 := Lib.hid fun W hW => nlives_any hTag hFile hNumber W hW
  clear hLW hTag hFile hNumber hk hn
  generalize (numP (numsOf s)).1 = a at *
  generalize (numP (numsOf s)).2 = b at *
  generalize strOfNums (fileP k n) = t at *
  go_enter Tryd.func4, Tryd.ntmps4
  go_wp2_with fail
  refine (H1.out _ HLW.out).mono ?_
  rintro e w1 ⟨rfl, hb1⟩
  have HB1 := Lib.hid hb1
  clear hb1
  go_wp2_with fail
  refine (H2.out _).mono ?_
  rintro e w2 ⟨rfl, hb2⟩
  have HB2 := Lib.hid (below_step HB1.out hb2)
  clear hb2 HB1
  go_wp2_with fail
  refine (H3.out _ (HLW.out.later HB2.out)).mono ?_
  rintro e w3 ⟨rfl, hb3⟩
  have HB3 := Lib.hid (below_step HB2.out hb3)
  clear hb3 HB2
  go_wp2_with fail
  refine (H4.out _).mono ?_
  rintro e w4 ⟨rfl, hb4⟩
  have HB4 := Lib.hid (below_step HB3.out hb4)
  clear hb4 HB3
  go_wp2_with fail
  refine (H5.out _ (HLW.out.later HB4.out)).mono ?_
  rintro e w5 ⟨rfl, hb5⟩
  have HB5 := Lib.hid (below_step HB4.out hb5)
  clear hb5 HB4
  go_wp2
  go_ret
  exact ⟨rfl, HB5.out⟩
end Go.Proofs.YtjdggdkdlgaocaaDoor
