/- Layer 16, the program: Head, Foot -/
import Derived.Test.YtjdigncieoaglaaSt11
import Derived.Test.YtjdigncieoaglaaSt16
import Derived.Test.YtjdigncieoaglaaSt32
set_option linter.unusedSimpArgs false
set_option linter.unusedVariables false
namespace Go.Proofs.Ytjdigncieoaglaa
set_option linter.unusedVariables false
open Go.RowKit Go.Lib

set_option maxRecDepth 100000 in
set_option maxHeartbeats 1000000 in
theorem cshead_ok : csHeadOk := by
  intro n s w hn hs
  have HM1 := Lib.hid fun W => cmake_ok (hdQ n s) W (hdQ_fit hn hs W) (Nat.zero_le _)
  rw [hdQ_rc] at HM1
  unfold Rq.v at HM1
  generalize makeN (headN n s) = F at *
  generalize rightN (headN n s) = R at *
  clear hn hs
  go_enter Try.func9, Try.ntmps9
  go_wp2_with (first
    | (refine wpList_build_is rfl 29 _ rfl (mixC (hdQ n s).a (hdQ n s).dg (hdQ n s).z) ?_ ?_; focus kernel_rfl)
    | (go_at_call 23; refine (HM1.out _).mono ?_; rintro e w1 ⟨v1, rfl, ho1, hb1⟩; have HO1 := Lib.hid ho1; have HB1 := Lib.hid hb1; clear ho1 hb1))
  go_ret
  exact ⟨_, rfl, HO1.out, HB1.out⟩
set_option maxRecDepth 100000 in
set_option maxHeartbeats 1000000 in
theorem csfoot_ok : csFootOk := by
  intro n z s w hn hz hs
  have HM1 := Lib.hid fun W => cmake_ok (ftQ s n z) W (ftQ_fit hs hn hz W) (Nat.zero_le _)
  rw [ftQ_rc] at HM1
  unfold Rq.v at HM1
  generalize makeN (footN s n z) = F at *
  generalize rightN (footN s n z) = R at *
  clear hn hs hz
  go_enter Try.func10, Try.ntmps10
  go_wp2_with (first
    | (refine wpList_build_is rfl 29 _ rfl (mixC (ftQ s n z).a (ftQ s n z).dg (ftQ s n z).z) ?_ ?_; focus kernel_rfl)
    | (go_at_call 23; refine (HM1.out _).mono ?_; rintro e w1 ⟨v1, rfl, ho1, hb1⟩; have HO1 := Lib.hid ho1; have HB1 := Lib.hid hb1; clear ho1 hb1))
  go_ret
  exact ⟨_, rfl, HO1.out, HB1.out⟩
end Go.Proofs.Ytjdigncieoaglaa
