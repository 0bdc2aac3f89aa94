/- Layer 19, the program: ascending -/
import Derived.Test.YtpfbfhigelbfcaaGreatSd23
import Derived.Test.YtpfbfhigelbfcaaGreatSd31
set_option linter.unusedSimpArgs false
set_option linter.unusedVariables false
namespace Go.Proofs.YtpfbfhigelbfcaaGreat
open Go.RowKit Go.Lib
set_option maxRecDepth 100000 in
theorem asc_any (p : Option Addr) (n c : Nat) (L : List Int) (w : World) (h : Gs encI w p n L) (hpc : p = none → c = 0) (hnc : n ≤ c) (hn : n ≤ 2097200) :
 Calls Tryz.prog 113 #[.slice p n c] w fun e w' => ∃ v, e = .returned v ∧ Gw encI w' w.heap.size v (rowI L) ∧ Below w.heap.size w w' := by
 have HC := Lib.hid (cloneI_any p n c L w h hpc hnc hn)
 have HN : Hid (n ≤ 4194304) := Lib.hid (by omega)
 clear h hpc hnc hn
 go_enter Tryz.func113, Tryz.ntmps113
 go_wp2_with (first
  | (go_at_call 122; refine HC.out.mono ?_; rintro e w1 ⟨p1, c1, rfl, hg1, hb1⟩; have HG1 := Lib.hid hg1; have HB1 := Lib.hid hb1; have HR1 : Hid (w.heap.size ≤ w1.heap.size) := Lib.hid hb1.size; clear hg1 hb1)
  | (go_at_call 99; refine (sortI_any w.heap.size n c1 p1 L _ HG1.out HR1.out HN.out).mono ?_; rintro e w2 ⟨rfl, L2, hg2, hs2, hm2, hb2⟩; have HG2 := Lib.hid hg2; have HS2 := Lib.hid hs2; have HM2 := Lib.hid hm2; have HB2 := Lib.hid (HB1.out.trans hb2); have HR2 : Hid (w.heap.size ≤ w2.heap.size) := Lib.hid (Nat.le_trans HR1.out hb2.size); clear hg2 hs2 hm2 hb2)
  | (go_at_call 140; refine (compI_any w.heap.size n c1 p1 L2 _ HG2.out HR2.out HN.out HS2.out).mono ?_; rintro e w3 ⟨k3, L3, rfl, hg3, hs3, hm3, hb3⟩; have HG3 := Lib.hid hg3; have HS3 := Lib.hid hs3; have HM3 := Lib.hid hm3; have HB3 := Lib.hid (HB2.out.trans hb3); clear hg3 hs3 hm3 hb3))
 go_ret
 have e : L3 = rowI L := irises_ext HS3.out (rowI_rises L) fun i => by rw [HM3.out, HM2.out, mem_rowI]
 subst e
 exact ⟨_, rfl, HG3.out, HB3.out⟩
end Go.Proofs.YtpfbfhigelbfcaaGreat

