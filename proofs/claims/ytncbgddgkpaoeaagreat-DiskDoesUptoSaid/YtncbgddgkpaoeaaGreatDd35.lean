/- Layer 12: what all its laws share: what was synced lasts; Layer 12: the law's Do: a call of a disk; Layer 12: what a crash leaves lasts, and takes no room; calls one behind another; Layer 12: a disk whose files have other numbers tells the same; Layer 12: disks that are loaded: the program's and the reference's, on plain lists; Layer 12: a disk that the program has loaded tells what the reference' -/
import Derived.Test.YtncbgddgkpaoeaaGreatDd31
import Derived.Test.YtncbgddgkpaoeaaGreatDd32
import Derived.Test.YtncbgddgkpaoeaaGreatDd34
set_option linter.unusedSimpArgs false
set_option linter.unusedVariables false
namespace Go.Proofs.YtncbgddgkpaoeaaGreat
set_option linter.unusedVariables false
open Go.RowKit Go.Lib Go.Maps

def sa : ByteArray := ⟨#[97]⟩
def dv0 : Dk := newD 100 4
def dv1 : Dk := ⟨100, 4, ⟨[], [⟨1, sa, ⟨#[]⟩, 1⟩]⟩, [⟨1, fi0⟩], 1, -1, false, 1⟩
def dv2 : Dk := ⟨100, 4, ⟨[], [⟨1, sa, ⟨#[]⟩, 1⟩]⟩, [⟨1, ⟨[], [⟨0, false, [120, 121]⟩]⟩⟩], 1, -1, false, 2⟩
def dv3 : Dk := ⟨100, 4, ⟨[], [⟨1, sa, ⟨#[]⟩, 1⟩]⟩, [⟨1, ⟨[120, 121], []⟩⟩], 1, -1, false, 3⟩
def dv4 : Dk := ⟨100, 4, ⟨[⟨sa, 1⟩], []⟩, [⟨1, ⟨[120, 121], []⟩⟩], 1, -1, false, 4⟩
def dv5 : Dk := ⟨100, 4, ⟨[⟨sa, 1⟩], []⟩, [⟨1, ⟨[120, 121], [⟨2, false, [122]⟩]⟩⟩], 1, -1, false, 5⟩
def dv6 : Dk := ⟨100, 4, ⟨[⟨sa, 1⟩], []⟩, [⟨1, ⟨[120, 121], []⟩⟩], 1, -1, false, 5⟩
theorem lv1 : powP dv0 (fun d => createP d sa) = (dv1, 0) := by rfl
theorem lv2 : powP dv1 (fun d => editP d sa (appX d [120, 121])) = (dv2, 0) := by rfl
theorem lv3 : powP dv2 (fun d => editP d sa synX) = (dv3, 0) := by rfl
theorem lv4 : powP dv3 (fun d => syncDirP d) = (dv4, 0) := by rfl
theorem lv5 : powP dv4 (fun d => editP d sa (appX d [122])) = (dv5, 0) := by rfl
theorem lv6 : crashD dv5 [] = dv6 := by rfl
theorem lv7 : readP dv6 sa 0 2 = ([120, 121], 0) := by rfl
theorem lv8 : bytesP dv6 sa = ([120, 121], 0) := by rfl
theorem inI_lit {n : Int} (h : -1000 ≤ n ∧ n ≤ 1000) : InI n := by unfold InI; omega
theorem clA_ok (k : Int) (hk : 0 ≤ k ∧ k ≤ 9) (b : List Int) (hb : b.length ≤ 2) : (⟨k, sa, ⟨#[]⟩, b, 0⟩ : Cl).Ok := ⟨inI_lit (by dsimp only; omega), (by show sa.size ≤ 1048576; decide), (by show (⟨#[]⟩ : ByteArray).size ≤ 1048576; decide), by dsimp only; omega, inI_lit (by dsimp only; omega)⟩
theorem dv0_ok : dv0.Ok 0 := new_ok (inI_lit (by omega)) (inI_lit (by omega))
theorem dv1_ok : dv1.Ok 2 := by
  have := step_ok dv0_ok (by omega) (clA_ok 1 (by omega) [] (by decide))
  rwa [show stepP dv0 ⟨1, sa, ⟨#[]⟩, [], 0⟩ = (dv1, 0) from lv1] at this
theorem dv2_ok : dv2.Ok 4 := by
  have := step_ok dv1_ok (by omega) (clA_ok 2 (by omega) [120, 121] (by decide))
  rwa [show stepP dv1 ⟨2, sa, ⟨#[]⟩, [120, 121], 0⟩ = (dv2, 0) from lv2] at this
theorem dv3_ok : dv3.Ok 6 := by
  have := step_ok dv2_ok (by omega) (clA_ok 4 (by omega) [] (by decide))
  rwa [show stepP dv2 ⟨4, sa, ⟨#[]⟩, [], 0⟩ = (dv3, 0) from lv3] at this
theorem dv4_ok : dv4.Ok 8 := by
  have := step_ok dv3_ok (by omega) (clA_ok 7 (by omega) [] (by decide))
  rwa [show stepP dv3 ⟨7, sa, ⟨#[]⟩, [], 0⟩ = (dv4, 0) from lv4] at this
theorem dv5_ok : dv5.Ok 10 := by
  have := step_ok dv4_ok (by omega) (clA_ok 2 (by omega) [122] (by decide))
  rwa [show stepP dv4 ⟨2, sa, ⟨#[]⟩, [122], 0⟩ = (dv5, 0) from lv5] at this
theorem dv6_ok : dv6.Ok 10 := by
  have := crash_ok dv5_ok []
  rwa [lv6] at this

theorem sa_size : sa.size ≤ 1048576 := by decide
theorem Dw.below {w w' : World} {D M : Nat} {d : Dk} (h : Dw w D M d) (hb : Below w.heap.size w w') : Dw w' D M d := h.later hb
set_option maxRecDepth 100000 in
set_option maxHeartbeats 2000000 in
theorem dlives_any (w : World) : Calls Tryz.prog 12 #[] w fun e w' => e = .returned (.bool true) ∧ Below w.heap.size w w' := by
  have kc := fun (w : World) (C : Array Value) (n c : Nat) => Lib.run_convert_bytes_const (P := Tryz.prog) w 32 5 C n c Tryz.underlying32 Tryz.underlying5
  have KC := Lib.hid kc
  clear kc
  have HNEW := Lib.hid (dnew_any 100 4 (inI_lit (by omega)) (inI_lit (by omega)) w)
  go_enter Tryz.func12, Tryz.ntmps12
  go_wp2_with (first
    | (go_at_call 13; refine HNEW.out.mono ?_; rintro e w1 ⟨D, M, rfl, hw1, hD, hM, hb1⟩
       have HB1 := Lib.hid hb1
       have HDM : Hid (w.heap.size ≤ D ∧ w.heap.size ≤ M) := Lib.hid ⟨hD, hM⟩
       have HK1 : Hid (Kp D M w1 w1) := Lib.hid (Kp.refl _ _ _)
       have HC1 := Lib.hid (dcreate_any hw1 dv0_ok (by omega) sa sa_size)
       rw [show powP (newD 100 4) (fun d => createP d sa) = (dv1, 0) from lv1] at HC1
       clear hw1 hD hM hb1)
    | (go_at_call 15; refine HC1.out.mono ?_; rintro e w2 ⟨rfl, hw2, hk2⟩
       obtain ⟨wA0, hA0⟩ : ∃ W, w2.alloc (.cells #[.int .u8 120, .int .u8 121] 5) = W := ⟨_, rfl⟩
       obtain ⟨wA, hA⟩ : ∃ W, w2.alloc (.cells #[.int .u8 120, .int .u8 121] 5 (2, 3)) = W := ⟨_, rfl⟩
       have kcA := KC.out w2 #[.int .u8 120, .int .u8 121] 2 2
       rw [hA0] at kcA
       change _ = Result.ok _ (w2.alloc (.cells #[.int .u8 120, .int .u8 121] 5 (2, 3))) at kcA
       rw [hA] at kcA
       obtain ⟨G, hG⟩ : ∃ G, w2.heap.size = G := ⟨_, rfl⟩
       rw [hG] at kcA
       have hbA : Below w2.heap.size w2 wA := (by rw [← hA]; exact (Below.refl _ _).alloc (Nat.le_refl _) _)
       have HKA := Lib.hid (hk2.then_below hbA)
       have HC2 := Lib.hid (dappend_any (hw2.later hbA) dv1_ok (by omega) sa sa_size (some ⟨G, 0, none⟩) 2 2 [120, 121] (by rw [← hA, ← hG]; exact bs_lit_fr w2 5 _ _ [120, 121] 2 rfl (by intro j; match j with | 0 | 1 => decide | j + 2 => simp) rfl) (fun h => by cases h) (Nat.le_refl _) (by omega))
       rw [lv2] at HC2
       clear hw2 hk2 hbA HC1)
    | (go_at_call 16; refine HC2.out.mono ?_; rintro e w3 ⟨rfl, hw3, hk3⟩
       have HK3 := Lib.hid (HKA.out.trans hk3)
       have HC3 := Lib.hid (dsync_any hw3 dv2_ok (by omega) sa sa_size)
       rw [lv3] at HC3
       clear hw3 hk3 HC2)
    | (go_at_call 17; refine HC3.out.mono ?_; rintro e w4 ⟨rfl, hw4, hk4⟩
       have HK4 := Lib.hid (HK3.out.trans hk4)
       have HC4 := Lib.hid (dsyncdir_any hw4 dv3_ok (by omega))
       rw [lv4] at HC4
       clear hw4 hk4 HC3)
    | (go_at_call 18; refine HC4.out.mono ?_; rintro e w5 ⟨rfl, hw5, hk5⟩
       obtain ⟨wB0, hB0⟩ : ∃ W, w5.alloc (.cells #[.int .u8 122] 5) = W := ⟨_, rfl⟩
       obtain ⟨wB, hB⟩ : ∃ W, w5.alloc (.cells #[.int .u8 122] 5 (1, 2)) = W := ⟨_, rfl⟩
       have kcB := KC.out w5 #[.int .u8 122] 1 1
       rw [hB0] at kcB
       change _ = Result.ok _ (w5.alloc (.cells #[.int .u8 122] 5 (1, 2))) at kcB
       rw [hB] at kcB
       obtain ⟨H, hH⟩ : ∃ G, w5.heap.size = G := ⟨_, rfl⟩
       rw [hH] at kcB
       have hbB : Below w5.heap.size w5 wB := (by rw [← hB]; exact (Below.refl _ _).alloc (Nat.le_refl _) _)
       have HK5 := Lib.hid ((HK4.out.trans hk5).then_below hbB)
       have HC5 := Lib.hid (dappend_any (hw5.later hbB) dv4_ok (by omega) sa sa_size (some ⟨H, 0, none⟩) 1 1 [122] (by rw [← hB, ← hH]; exact bs_lit_fr w5 5 _ _ [122] 1 rfl (by intro j; match j with | 0 => decide | j + 1 => simp) rfl) (fun h => by cases h) (Nat.le_refl _) (by omega))
       rw [lv5] at HC5
       clear hw5 hk5 hbB HC4)
    | (go_at_call 16; refine HC5.out.mono ?_; rintro e w6 ⟨rfl, hw6, hk6⟩
       have HK6 := Lib.hid (HK5.out.trans hk6)
       have HW6 := Lib.hid hw6
       clear hw6 hk6 HC5))
  obtain ⟨wE, hE⟩ : ∃ W, w6.alloc (.cells #[.int .i64 0, .int .i64 0, .int .i64 0, .int .i64 0, .int .i64 0] 30) = W := ⟨_, rfl⟩
  obtain ⟨E, hEs⟩ : ∃ G, w6.heap.size = G := ⟨_, rfl⟩
  have hbE : Below w6.heap.size w6 wE := by rw [← hE]; exact (Below.refl _ _).alloc (Nat.le_refl _) _
  have HKE := Lib.hid (HK6.out.then_below hbE)
  have HWE := Lib.hid (HW6.out.later hbE)
  have HCE : Hid (∀ j, j < 5 → wE.cell? ⟨E, j, none⟩ = some (.int .i64 0)) := Lib.hid fun j hj => by
    have hh : wE.heap[E]? = some (.cells #[.int .i64 0, .int .i64 0, .int .i64 0, .int .i64 0, .int .i64 0] 30 (0, 0)) := by rw [← hE, ← hEs]; exact heap_alloc_new _ _
    rw [cell_of_row _ _ _ _ _ _ hh]
    match j, hj with
    | 0, _ | 1, _ | 2, _ | 3, _ | 4, _ => rfl
  simp only [hE, hEs]
  clear hE hEs hbE hA hA0 hG hB hB0 hH kcA kcB
  go_loopw [3] (fun i wr => ∃ j : Nat, j ≤ 5 ∧ i = .int .i64 (j : Int) ∧ wr = wE) (fun i _ => 5 - (intOf i).toNat)
  case atStart => exact ⟨0, by omega, rfl, rfl⟩
  case round =>
    obtain ⟨j, hj, rfl, rfl⟩ := hrel
    by_cases hlt : j < 5
    · have hc := HCE.out j hlt
      have hkn : (j : Int) < 5 := by omega
      have hk0 : (0 : Int) ≤ (j : Int) := by omega
      go_wp2
      refine ⟨?_, by simp [intOf] <;> omega⟩
      exact ⟨j + 1, by omega, by go_num, trivial⟩
    · obtain rfl : j = 5 := by omega
      have hstr : strOfNums [120, 121] = (⟨#[120, 121]⟩ : ByteArray) := by rfl
      go_wp2_with (first
        | (go_at_call 14; obtain ⟨x6, fu6, g6, hx6⟩ := HWE.out; refine (dcrash_any hx6 dv5_ok (by omega) none 0 0 [] (Bs.empty _ _) (fun _ => rfl) (Nat.le_refl _) (by omega)).mono ?_; rintro e w7 ⟨rfl, hw7, hk7⟩; rw [lv6] at hw7; have HW7 := Lib.hid hw7; have HK7 := Lib.hid (HKE.out.trans hk7); clear hw7 hk7 hx6)
        | (go_at_call 20; obtain ⟨x7, fu7, g7, hx7⟩ := HW7.out; refine (dread_any hx7 dv6_ok (by omega) sa sa_size 0 2 (inI_lit (by omega)) (inI_lit (by omega))).mono ?_; rintro e w8 ⟨p8, n8, c8, rfl, hb8, _, _, _, hbb8⟩; rw [lv7] at hb8 ⊢; obtain rfl : n8 = 2 := hb8.1.symm; have HW8 := Lib.hid (HW7.out.later hbb8); have HK8 := Lib.hid (HK7.out.then_below hbb8); have HS8 := Lib.hid hb8; clear hx7 hb8 hbb8)
        | (go_at_call 19; obtain ⟨x8, fu8, g8, hx8⟩ := HW8.out; refine (dsize_any hx8 dv6_ok (by omega) sa sa_size).mono ?_; rintro e w9 ⟨rfl, hb9⟩; rw [lv8]; have HW9 := Lib.hid (HW8.out.later hb9); have HK9 := Lib.hid (HK8.out.then_below hb9); have hrs := (HS8.out.later hb9).run_string (P := Tryz.prog) 32 5 9 Tryz.underlying32 Tryz.underlying5 Tryz.underlying9 c8; rw [hstr] at hrs; clear hx8 hb9)
        | (go_at_call 26; obtain ⟨x9, fu9, g9, hx9⟩ := HW9.out; refine (dcalls_any hx9).mono ?_; rintro e w10 ⟨rfl, rfl⟩; clear hx9))
      go_ret
      exact ⟨rfl, HK9.out.onto HB1.out HB1.out.size HDM.out.1 HDM.out.2⟩
end Go.Proofs.YtncbgddgkpaoeaaGreat

namespace Go.Proofs.YtncbgddgkpaoeaaGreat
set_option linter.unusedVariables false
open Go.RowKit Go.Lib Go.Maps

set_option maxRecDepth 100000 in
set_option maxHeartbeats 2000000 in
theorem ddo_any {w : World} {D M m : Nat} {d : Dk} (h : Dw w D M d) (ho : d.Ok m) (hm : m ≤ 1048573) (c : Cx) (hc : c.Fit w) :
    Calls Tryz.prog 9 #[.pointer (some ⟨D, 0, none⟩), c.v] w fun e w' => e = .returned (.int .i64 (stepP d c.cl).2) ∧ Dw w' D M (stepP d c.cl).1 ∧ Kp D M w w' := by
  have hll := hc.len
  obtain ⟨hcb, hcp, hcl, hck, hcs, hct, hcd, hcn⟩ := hc
  obtain ⟨k, s, t, p, l, e, zs, n⟩ := c
  unfold Cx.cl at hck hcs hct hcd hcn ⊢
  unfold Cx.v
  dsimp only at hcb hcp hcl hck hcs hct hcd hcn hll ⊢
  obtain ⟨wA, hA⟩ : ∃ A, w.alloc (.cells #[.int .i64 k, .string s, .string t, .slice p l e, .int .i64 n] 34) = A := ⟨_, rfl⟩
  have HBA : Hid (Below w.heap.size w wA) := Lib.hid (by rw [← hA]; exact (Below.refl _ _).alloc (Nat.le_refl _) _)
  have hx : Cxw wA w.heap.size ⟨k, s, t, p, l, e, zs, n⟩ := by unfold Cxw; rw [← hA]; exact heap_alloc_new _ _
  obtain ⟨c0, c1, c2, c3, c4⟩ := hx.cells
  dsimp only at c0 c1 c2 c3 c4
  have HW := Lib.hid (h.later HBA.out)
  have HB := Lib.hid (hcb.later HBA.out)
  clear hx h hcb
  by_cases h1 : k = 1
  · subst h1
    have HS := Lib.hid (dcreate_any HW.out ho hm s hcs)
    rw [show stepP d ⟨1, s, t, zs, n⟩ = powP d (fun d => createP d s) from rfl]
    generalize powP d (fun d => createP d s) = R at *
    clear ho
    go_enter Tryz.func9, Tryz.ntmps9
    go_wp2_with (go_at_call 15; refine HS.out.mono ?_; rintro e w2 ⟨rfl, hw2, hk2⟩; have HW2 := Lib.hid hw2; have HK2 := Lib.hid hk2; clear hw2 hk2)
    first | go_ret | (refine bodyPost_ret (results_tmp rfl _ _ _) rfl ?_)
    exact ⟨rfl, HW2.out, (Kp.of_below HBA.out).trans HK2.out⟩
  have k1 : (k == 1) = false := by simpa using h1
  by_cases h2 : k = 2
  · subst h2
    have HS := Lib.hid (dappend_any HW.out ho hm s hcs p l e zs HB.out hcp hcl hll)
    rw [show stepP d ⟨2, s, t, zs, n⟩ = powP d (fun d => editP d s (appX d zs)) from rfl]
    generalize powP d (fun d => editP d s (appX d zs)) = R at *
    clear ho
    go_enter Tryz.func9, Tryz.ntmps9
    go_wp2_with (go_at_call 16; refine HS.out.mono ?_; rintro e w2 ⟨rfl, hw2, hk2⟩; have HW2 := Lib.hid hw2; have HK2 := Lib.hid hk2; clear hw2 hk2)
    first | go_ret | (refine bodyPost_ret (results_tmp rfl _ _ _) rfl ?_)
    exact ⟨rfl, HW2.out, (Kp.of_below HBA.out).trans HK2.out⟩
  have k2 : (k == 2) = false := by simpa using h2
  by_cases h3 : k = 3
  · subst h3
    have HS := Lib.hid (dcut_any HW.out ho hm s hcs n hcn)
    rw [show stepP d ⟨3, s, t, zs, n⟩ = powP d (fun d => editP d s (cutX n)) from rfl]
    generalize powP d (fun d => editP d s (cutX n)) = R at *
    clear ho
    go_enter Tryz.func9, Tryz.ntmps9
    go_wp2_with (go_at_call 35; refine HS.out.mono ?_; rintro e w2 ⟨rfl, hw2, hk2⟩; have HW2 := Lib.hid hw2; have HK2 := Lib.hid hk2; clear hw2 hk2)
    first | go_ret | (refine bodyPost_ret (results_tmp rfl _ _ _) rfl ?_)
    exact ⟨rfl, HW2.out, (Kp.of_below HBA.out).trans HK2.out⟩
  have k3 : (k == 3) = false := by simpa using h3
  by_cases h4 : k = 4
  · subst h4
    have HS := Lib.hid (dsync_any HW.out ho hm s hcs)
    rw [show stepP d ⟨4, s, t, zs, n⟩ = powP d (fun d => editP d s synX) from rfl]
    generalize powP d (fun d => editP d s synX) = R at *
    clear ho
    go_enter Tryz.func9, Tryz.ntmps9
    go_wp2_with (go_at_call 17; refine HS.out.mono ?_; rintro e w2 ⟨rfl, hw2, hk2⟩; have HW2 := Lib.hid hw2; have HK2 := Lib.hid hk2; clear hw2 hk2)
    first | go_ret | (refine bodyPost_ret (results_tmp rfl _ _ _) rfl ?_)
    exact ⟨rfl, HW2.out, (Kp.of_below HBA.out).trans HK2.out⟩
  have k4 : (k == 4) = false := by simpa using h4
  by_cases h5 : k = 5
  · subst h5
    have HS := Lib.hid (drename_any HW.out ho hm s t hcs hct)
    rw [show stepP d ⟨5, s, t, zs, n⟩ = powP d (fun d => renP d ⟨2, s, t, 0⟩) from rfl]
    generalize powP d (fun d => renP d ⟨2, s, t, 0⟩) = R at *
    clear ho
    go_enter Tryz.func9, Tryz.ntmps9
    go_wp2_with (go_at_call 36; refine HS.out.mono ?_; rintro e w2 ⟨rfl, hw2, hk2⟩; have HW2 := Lib.hid hw2; have HK2 := Lib.hid hk2; clear hw2 hk2)
    first | go_ret | (refine bodyPost_ret (results_tmp rfl _ _ _) rfl ?_)
    exact ⟨rfl, HW2.out, (Kp.of_below HBA.out).trans HK2.out⟩
  have k5 : (k == 5) = false := by simpa using h5
  by_cases h6 : k = 6
  · subst h6
    have HS := Lib.hid (dremove_any HW.out ho hm s hcs)
    rw [show stepP d ⟨6, s, t, zs, n⟩ = powP d (fun d => renP d ⟨3, s, ⟨#[]⟩, 0⟩) from rfl]
    generalize powP d (fun d => renP d ⟨3, s, ⟨#[]⟩, 0⟩) = R at *
    clear ho
    go_enter Tryz.func9, Tryz.ntmps9
    go_wp2_with (go_at_call 37; refine HS.out.mono ?_; rintro e w2 ⟨rfl, hw2, hk2⟩; have HW2 := Lib.hid hw2; have HK2 := Lib.hid hk2; clear hw2 hk2)
    first | go_ret | (refine bodyPost_ret (results_tmp rfl _ _ _) rfl ?_)
    exact ⟨rfl, HW2.out, (Kp.of_below HBA.out).trans HK2.out⟩
  have k6 : (k == 6) = false := by simpa using h6
  by_cases h7 : k = 7
  · subst h7
    have HS := Lib.hid (dsyncdir_any HW.out ho hm)
    rw [show stepP d ⟨7, s, t, zs, n⟩ = powP d (fun d => syncDirP d) from rfl]
    generalize powP d (fun d => syncDirP d) = R at *
    clear ho
    go_enter Tryz.func9, Tryz.ntmps9
    go_wp2_with (go_at_call 18; refine HS.out.mono ?_; rintro e w2 ⟨rfl, hw2, hk2⟩; have HW2 := Lib.hid hw2; have HK2 := Lib.hid hk2; clear hw2 hk2)
    first | go_ret | (refine bodyPost_ret (results_tmp rfl _ _ _) rfl ?_)
    exact ⟨rfl, HW2.out, (Kp.of_below HBA.out).trans HK2.out⟩
  have k7 : (k == 7) = false := by simpa using h7
  by_cases h8 : k = 8
  · subst h8
    obtain ⟨x, fu, g, hx⟩ := HW.out
    have HS := Lib.hid (dfuse_any hx n hcn)
    rw [show stepP d ⟨8, s, t, zs, n⟩ = ({ d with fuse := normF n }, 0) from rfl]
    clear ho hx
    go_enter Tryz.func9, Tryz.ntmps9
    go_wp2_with (go_at_call 38; refine HS.out.mono ?_; rintro e w2 ⟨rfl, hw2, hk2⟩; have HW2 := Lib.hid hw2; have HK2 := Lib.hid hk2; clear hw2 hk2)
    first | go_ret | (refine bodyPost_ret (results_tmp rfl _ _ _) rfl ?_)
    exact ⟨rfl, HW2.out, (Kp.of_below HBA.out).trans HK2.out⟩
  have k8 : (k == 8) = false := by simpa using h8
  by_cases h9 : k = 9
  · subst h9
    obtain ⟨x, fu, g, hx⟩ := HW.out
    have HS := Lib.hid (dcrash_any hx ho (by omega) p l e zs HB.out hcp hcl (by omega))
    rw [show stepP d ⟨9, s, t, zs, n⟩ = (crashD d zs, 0) from rfl]
    clear ho hx
    go_enter Tryz.func9, Tryz.ntmps9
    go_wp2_with (go_at_call 14; refine HS.out.mono ?_; rintro e w2 ⟨rfl, hw2, hk2⟩; have HW2 := Lib.hid hw2; have HK2 := Lib.hid hk2; clear hw2 hk2)
    first | go_ret | (refine bodyPost_ret (results_tmp rfl _ _ _) rfl ?_)
    exact ⟨rfl, HW2.out, (Kp.of_below HBA.out).trans HK2.out⟩
  have k9 : (k == 9) = false := by simpa using h9
  have HE : Hid (stepP d ⟨k, s, t, zs, n⟩ = (d, 0)) := Lib.hid (by
    unfold stepP
    dsimp only
    rw [if_neg (by omega), if_neg h8, if_neg h9])
  clear h1 h2 h3 h4 h5 h6 h7 h8 h9 ho
  go_enter Tryz.func9, Tryz.ntmps9
  go_wp2
  go_ret
  rw [HE.out]
  exact ⟨rfl, HW.out, Kp.of_below HBA.out⟩
end Go.Proofs.YtncbgddgkpaoeaaGreat

namespace Go.Proofs.YtncbgddgkpaoeaaGreat
set_option linter.unusedVariables false
open Go.RowKit Go.Lib

theorem crash_used {m : Nat} {d : Dk} (ho : d.Ok m) (ch : List Int) : usedK (crashD d ch).K ≤ usedK d.K ∧ (crashD d ch).K.length ≤ d.K.length := by
  have hs : ∀ i ∈ idsP (crashQ d.F (ch.headD 0).toNat), i ∈ idK (crK d.K ch.tail) := fun i hi => by rw [idK_cr, ho.ids]; exact ids_crash _ _ i hi
  have hr : irises (idK (crK d.K ch.tail)) := by rw [idK_cr]; exact ho.rises
  have e : (crashD d ch).K = (crK d.K ch.tail).filter fun k => decide (k.id ∈ idsP (crashQ d.F (ch.headD 0).toNat)) := tidy_filter hr (idsP_rises _) hs
  rw [e]
  refine ⟨Int.le_trans (usedK_filter _ _) (usedK_cr _ _), Nat.le_trans (List.length_filter_le _ _) ?_⟩
  have h1 := congrArg List.length (idK_cr d.K ch.tail)
  simp only [idK, List.length_map] at h1
  omega
theorem crK_still {K : List Kt} (h : ∀ k ∈ K, k.x.l = []) (ch : List Int) : crK K ch = K := by
  induction K generalizing ch with
  | nil => rfl
  | cons k K ih =>
    obtain ⟨i, b, l⟩ := k
    have hl : l = [] := h _ List.mem_cons_self
    subst hl
    rw [crK, ih (fun k hk => h k (List.mem_cons_of_mem _ hk))]
    have e : crashP ⟨b, []⟩ ch = ⟨b, []⟩ := by unfold crashP; rw [surP_nil]
    dsimp only
    rw [e]
theorem crash_twice {m : Nat} {d : Dk} (ho : d.Ok m) (ch ch2 : List Int) : crashD (crashD d ch) ch2 = crashD d ch := by
  have h1 := crash_ok ho ch
  have hF : ∀ n, crashQ (crashD d ch).F n = (crashD d ch).F := fun n => by
    show (⟨behP (crashD d ch).F n, []⟩ : Fd) = _
    have e : (crashD d ch).F = ⟨behP d.F (ch.headD 0).toNat, []⟩ := rfl
    rw [e, behP_none _ n (beh_both _ _).1]
  have hK : ∀ c, crK (crashD d ch).K c = (crashD d ch).K := fun c => by
    refine crK_still (fun k hk => ?_) c
    obtain ⟨i, hi, rfl⟩ := List.mem_map.1 (show k ∈ tidyK (crK d.K ch.tail) _ from hk)
    dsimp only
    by_cases hm : i ∈ idK (crK d.K ch.tail)
    · obtain ⟨k', _, c', e⟩ := mem_cr (atK_mem hm)
      have := congrArg Kt.x e
      dsimp only at this
      rw [this]
      rfl
    · unfold atK
      rw [getK_none hm]; rfl
  have hT : tidyK (crashD d ch).K (idsP (crashD d ch).F) = (crashD d ch).K := by
    rw [← h1.ids]; exact tidy_self h1.rises
  unfold crashD at *
  dsimp only at *
  rw [hF, hK, hT]
theorem leftP_mono {l u v : Int} (h : v ≤ u) : leftP l u ≤ leftP l v := by unfold leftP; omega

/-- calls one behind another -/
def stepsP (d : Dk) (L : List Cx) : Dk := L.foldl (fun d c => (stepP d c.cl).1) d
theorem steps_snoc (d : Dk) (L : List Cx) (c : Cx) : stepsP d (L ++ [c]) = (stepP (stepsP d L) c.cl).1 := by
  unfold stepsP
  rw [List.foldl_append]; rfl
theorem steps_take {d : Dk} {L : List Cx} {j : Nat} (h : j < L.length) : stepsP d (L.take (j + 1)) = (stepP (stepsP d (L.take j)) (L.getD j cx0).cl).1 := by
  rw [List.take_succ_eq_append_getElem h, steps_snoc, List.getD_eq_getElem?_getD, List.getElem?_eq_getElem h]; rfl
theorem steps_ok {W : World} {d : Dk} {m : Nat} (ho : d.Ok m) {L : List Cx} (hf : ∀ c ∈ L, c.Fit W) (hm : m + 2 * L.length ≤ 1048574) : ∀ j, j ≤ L.length → (stepsP d (L.take j)).Ok (m + 2 * j)
  | 0, _ => by rw [List.take_zero]; exact ho
  | j + 1, hj => by
    have h1 := steps_ok ho hf hm j (by omega)
    rw [steps_take (by omega)]
    have hmem : L.getD j cx0 ∈ L := by rw [List.getD_eq_getElem?_getD, List.getElem?_eq_getElem (by omega)]; exact List.getElem_mem _
    exact (step_ok h1 (by omega) (hf _ hmem).ok).mono (by omega)
end Go.Proofs.YtncbgddgkpaoeaaGreat

namespace Go.Proofs.YtncbgddgkpaoeaaGreat
set_option linter.unusedVariables false

section
variable (φ : Int → Int)
def mN (x : Nd) : Nd := ⟨x.s, φ x.id⟩
def mC (c : Cg) : Cg := if c.k = 1 then ⟨c.k, c.a, c.b, φ c.id⟩ else c
def mF (F : Fd) : Fd := ⟨F.l.map (mN φ), F.p.map (mC φ)⟩
def mK (K : List Kt) : List Kt := K.map fun k => ⟨φ k.id, k.x⟩
theorem mC_k (c : Cg) : (mC φ c).k = c.k := by unfold mC; split <;> rfl
theorem mC_a (c : Cg) : (mC φ c).a = c.a := by unfold mC; split <;> rfl
theorem mC_b (c : Cg) : (mC φ c).b = c.b := by unfold mC; split <;> rfl
theorem mC_id (c : Cg) (h : c.k = 1) : (mC φ c).id = φ c.id := by unfold mC; rw [if_pos h]
theorem putR_map (x : Nd) : ∀ l t, putR (mN φ x) (l.map (mN φ)) t = (putR x l t).map (mN φ)
  | [], t => by cases t <;> rfl
  | y :: l, t => by
    have ih := putR_map x l (t || sgt y.s x.s)
    rw [List.map_cons, putR, putR, List.map_append, List.map_append]
    show _ ++ (_ ++ putR (mN φ x) (l.map (mN φ)) (t || sgt y.s x.s)) = _
    rw [ih]
    congr 1
    · show (if t = false ∧ sgt y.s x.s = true then [mN φ x] else []) = _
      split <;> rfl
    · congr 1
      show (if y.s = x.s then [] else [mN φ y]) = _
      split <;> rfl
theorem putQ_map (x : Nd) (l : List Nd) : putQ (l.map (mN φ)) (mN φ x) = (putQ l x).map (mN φ) := putR_map φ x l false
theorem outP_map (l : List Nd) (s : ByteArray) : outP (l.map (mN φ)) s = (outP l s).map (mN φ) := by
  unfold outP
  rw [List.filter_map]; rfl
theorem findP_map (l : List Nd) (s : ByteArray) : findP (l.map (mN φ)) s = (findP l s).map φ := by
  induction l with
  | nil => rfl
  | cons x l ih =>
    rw [List.map_cons, findP, findP, ih]
    show (if x.s = s then some (φ x.id) else _) = _
    split <;> rfl
theorem chgP_map (l : List Nd) (c : Cg) : chgP (l.map (mN φ)) (mC φ c) = (chgP l c).map (mN φ) := by
  unfold chgP
  rw [mC_k, mC_a, mC_b, findP_map]
  split
  · rename_i h
    rw [mC_id φ c h]
    exact putQ_map φ ⟨c.a, c.id⟩ l
  · split
    · cases findP l c.a with
      | none => rfl
      | some i =>
        show putQ (outP (l.map (mN φ)) c.a) (mN φ ⟨c.b, i⟩) = _
        rw [outP_map, putQ_map]
    · split
      · exact outP_map φ l c.a
      · rfl
theorem baseP_map (l : List Nd) : baseP (l.map (mN φ)) = (baseP l).map (mN φ) := by
  induction l with
  | nil => rfl
  | cons x l ih =>
    show putQ (baseP (l.map (mN φ))) (mN φ x) = (putQ (baseP l) x).map (mN φ)
    rw [ih, putQ_map]
theorem fold_map (p : List Cg) : ∀ l, (p.map (mC φ)).foldl chgP (l.map (mN φ)) = (p.foldl chgP l).map (mN φ) := by
  induction p with
  | nil => exact fun l => rfl
  | cons c p ih =>
    intro l
    rw [List.map_cons, List.foldl_cons, List.foldl_cons, chgP_map, ih]
theorem beh_map (F : Fd) (n : Nat) : behP (mF φ F) n = (behP F n).map (mN φ) := by
  unfold behP mF
  dsimp only
  rw [baseP_map, ← List.map_take, fold_map]
theorem now_map (F : Fd) : nowQ (mF φ F) = (nowQ F).map (mN φ) := by
  unfold nowQ
  rw [beh_map]
  show (behP F (F.p.map (mC φ)).length).map _ = _
  rw [List.length_map]
theorem crashQ_map (F : Fd) (n : Nat) : crashQ (mF φ F) n = mF φ (crashQ F n) := by
  unfold crashQ
  rw [beh_map]; rfl
theorem syncQ_map (F : Fd) : syncQ (mF φ F) = mF φ (syncQ F) := by
  unfold syncQ
  rw [now_map]; rfl
theorem errP_map (disk : List Int → Bool) (F : Fd) (c : Cg) : errP disk (mF φ F) (mC φ c) = errP disk F c := by
  unfold errP
  rw [mC_k, mC_a, mC_b, now_map, findP_map, Option.isSome_map]
theorem doP_map (disk : List Int → Bool) (F : Fd) (c : Cg) : doP disk (mF φ F) (mC φ c) = mF φ (doP disk F c) := by
  unfold doP
  rw [errP_map]
  split
  · unfold mF
    dsimp only
    rw [List.map_append]; rfl
  · rfl
theorem mK_append (K L : List Kt) : mK φ (K ++ L) = mK φ K ++ mK φ L := List.map_append
theorem idK_map (K : List Kt) : idK (mK φ K) = (idK K).map φ := by
  unfold idK mK
  rw [List.map_map, List.map_map]; rfl
theorem mK_length (K : List Kt) : (mK φ K).length = K.length := by unfold mK; rw [List.length_map]
theorem used_map (K : List Kt) : usedK (mK φ K) = usedK K := by
  induction K with
  | nil => rfl
  | cons k K ih => show roomP k.x + usedK (mK φ K) = _; rw [ih]; rfl
theorem cr_map (K : List Kt) : ∀ ch, crK (mK φ K) ch = mK φ (crK K ch) := by
  induction K with
  | nil => exact fun ch => rfl
  | cons k K ih =>
    intro ch
    show (⟨φ k.id, crashP k.x ch⟩ : Kt) :: crK (mK φ K) (restP k.x ch) = _
    rw [ih]; rfl
end

/-- rising where it is asked -/
def Mo (φ : Int → Int) (P : Int → Prop) : Prop := ∀ i j, P i → P j → i < j → φ i < φ j
section
variable {φ : Int → Int} {P : Int → Prop}
theorem Mo.inj (h : Mo φ P) {i j : Int} (hi : P i) (hj : P j) (e : φ i = φ j) : i = j := by
  rcases Int.lt_trichotomy i j with h1 | h1 | h1
  · have := h i j hi hj h1; omega
  · exact h1
  · have := h j i hj hi h1; omega
theorem Mo.rises (h : Mo φ P) : ∀ {l : List Int}, irises l → (∀ i ∈ l, P i) → irises (l.map φ)
  | [], _, _ => List.Pairwise.nil
  | i :: l, hr, hp => by
    obtain ⟨h1, h2⟩ := List.pairwise_cons.1 hr
    refine List.pairwise_cons.2 ⟨fun j hj => ?_, h.rises h2 fun j hj => hp j (List.mem_cons_of_mem _ hj)⟩
    obtain ⟨k, hk, rfl⟩ := List.mem_map.1 hj
    exact h i k (hp i List.mem_cons_self) (hp k (List.mem_cons_of_mem _ hk)) (h1 k hk)
theorem ids_map (h : Mo φ P) {F : Fd} (hp : ∀ i ∈ idsP F, P i) : idsP (mF φ F) = (idsP F).map φ := by
  refine irises_ext (idsP_rises _) (h.rises (idsP_rises F) hp) fun i => ?_
  rw [mem_idsP', List.mem_map]
  constructor
  · rintro (⟨s, hs⟩ | ⟨c, hc, h1, h2⟩)
    · have hs' : findP (F.l.map (mN φ)) s = some i := hs
      rw [findP_map] at hs'
      obtain ⟨j, hj, e⟩ := Option.map_eq_some_iff.1 hs'
      exact ⟨j, (mem_idsP' _ _).2 (Or.inl ⟨s, hj⟩), e⟩
    · obtain ⟨c', hc', rfl⟩ := List.mem_map.1 (show c ∈ F.p.map (mC φ) from hc)
      rw [mC_k] at h1
      rw [mC_id φ c' h1] at h2
      exact ⟨c'.id, (mem_idsP' _ _).2 (Or.inr ⟨c', hc', h1, rfl⟩), h2⟩
  · rintro ⟨j, hj, rfl⟩
    rcases (mem_idsP' _ _).1 hj with ⟨s, hs⟩ | ⟨c, hc, h1, h2⟩
    · refine Or.inl ⟨s, ?_⟩
      show findP (F.l.map (mN φ)) s = _
      rw [findP_map, hs]; rfl
    · refine Or.inr ⟨mC φ c, List.mem_map_of_mem hc, by rw [mC_k]; exact h1, by rw [mC_id φ c h1, h2]⟩
theorem getK_map (h : Mo φ P) {K : List Kt} (hK : ∀ i ∈ idK K, P i) {i : Int} (hi : P i) : getK (mK φ K) (φ i) = getK K i := by
  induction K with
  | nil => rfl
  | cons k K ih =>
    show getK (⟨φ k.id, k.x⟩ :: mK φ K) (φ i) = _
    rw [getK, getK]
    dsimp only
    have hk := hK k.id List.mem_cons_self
    have ih' := ih fun j hj => hK j (List.mem_cons_of_mem _ hj)
    by_cases e : k.id = i
    · rw [if_pos e, if_pos (by rw [e])]
    · rw [if_neg e, if_neg (fun e' => e (h.inj hk hi e'))]; exact ih'
theorem atK_map (h : Mo φ P) {K : List Kt} (hK : ∀ i ∈ idK K, P i) {i : Int} (hi : P i) : atK (mK φ K) (φ i) = atK K i := by unfold atK; rw [getK_map h hK hi]
theorem setK_map (h : Mo φ P) {K : List Kt} (hK : ∀ i ∈ idK K, P i) {i : Int} (hi : P i) (x : Fi) : setK (mK φ K) (φ i) x = mK φ (setK K i x) := by
  unfold setK mK
  rw [List.map_map, List.map_map]
  apply List.map_congr_left
  intro k hk
  have hk' := hK k.id (List.mem_map_of_mem hk)
  show (if φ k.id = φ i then (⟨φ k.id, x⟩ : Kt) else ⟨φ k.id, k.x⟩) = _
  by_cases e : k.id = i
  · rw [if_pos (by rw [e])]
    show _ = (⟨φ (if k.id = i then (⟨k.id, x⟩ : Kt) else k).id, (if k.id = i then (⟨k.id, x⟩ : Kt) else k).x⟩ : Kt)
    rw [if_pos e]
  · rw [if_neg (fun e' => e (h.inj hk' hi e'))]
    show _ = (⟨φ (if k.id = i then (⟨k.id, x⟩ : Kt) else k).id, (if k.id = i then (⟨k.id, x⟩ : Kt) else k).x⟩ : Kt)
    rw [if_neg e]
theorem tidy_map (h : Mo φ P) {K : List Kt} (hK : ∀ i ∈ idK K, P i) {l : List Int} (hl : ∀ i ∈ l, P i) : tidyK (mK φ K) (l.map φ) = mK φ (tidyK K l) := by
  unfold tidyK
  rw [List.map_map]
  show _ = mK φ (List.map _ l)
  unfold mK
  rw [List.map_map]
  apply List.map_congr_left
  intro i hi
  show (⟨φ i, atK (mK φ K) (φ i)⟩ : Kt) = ⟨φ i, atK K i⟩
  rw [atK_map h hK (hl i hi)]

/-- the same disk, its numbers aside -/
def reD (φ : Int → Int) (n : Int) (d : Dk) : Dk := { d with F := mF φ d.F, K := mK φ d.K, last := n }
structure Rn (φ : Int → Int) (P : Int → Prop) (n : Int) (d : Dk) : Prop where
  mo : Mo φ P
  ids : ∀ i ∈ idsP d.F, P i
  next : ∀ i, d.last < i → P i ∧ φ i = i - d.last + n
theorem Rn.same {n : Int} {d d' : Dk} (h : Rn φ P n d) (hi : ∀ i ∈ idsP d'.F, i ∈ idsP d.F) (hl : d'.last = d.last) : Rn φ P n d' := ⟨h.mo, fun i hx => h.ids i (hi i hx), by rw [hl]; exact h.next⟩
theorem Rn.kids {m : Nat} {n : Int} {d : Dk} (h : Rn φ P n d) (ho : d.Ok m) : ∀ i ∈ idK d.K, P i := by rw [ho.ids]; exact h.ids
theorem Rn.find {n : Int} {d : Dk} (h : Rn φ P n d) {s : ByteArray} {i : Int} (hf : findP (nowQ d.F) s = some i) : P i := h.ids i (find_ids hf)

theorem re_settle {m : Nat} {n : Int} {d : Dk} (h : Rn φ P n d) (ho : d.Ok m) (q : Nat) {K : List Kt} (hK : idK K = idK d.K) : tidyK (mK φ K) (idsP (crashQ (mF φ d.F) q)) = mK φ (tidyK K (idsP (crashQ d.F q))) := by
  have hi : ∀ i ∈ idsP (crashQ d.F q), P i := fun i hi => h.ids i (ids_crash _ _ i hi)
  rw [crashQ_map, ids_map h.mo hi, tidy_map h.mo (by rw [hK]; exact h.kids ho) hi]
theorem re_crash {m : Nat} {n : Int} {d : Dk} (h : Rn φ P n d) (ho : d.Ok m) (ch : List Int) : crashD (reD φ n d) ch = reD φ n (crashD d ch) ∧ Rn φ P n (crashD d ch) := by
  refine ⟨?_, h.same (fun i hi => ids_crash _ _ i hi) rfl⟩
  have e := re_settle h ho (ch.headD 0).toNat (K := crK d.K ch.tail) (idK_cr _ _)
  unfold crashD reD
  dsimp only
  rw [cr_map, e, crashQ_map]
theorem re_sync {m : Nat} {n : Int} {d : Dk} (h : Rn φ P n d) (ho : d.Ok m) : syncDirP (reD φ n d) = (reD φ n (syncDirP d).1, (syncDirP d).2) ∧ Rn φ P n (syncDirP d).1 := by
  refine ⟨?_, h.same (fun i hi => ids_sync _ i hi) rfl⟩
  have e := re_settle h ho d.F.p.length (K := d.K) rfl
  have e2 : tidyK (mK φ d.K) (idsP (mF φ (syncQ d.F))) = mK φ (tidyK d.K (idsP (syncQ d.F))) := by
    rw [crashQ_map] at e
    exact e
  unfold syncDirP reD
  dsimp only
  rw [syncQ_map, e2]
theorem re_ren {n : Int} {d : Dk} (h : Rn φ P n d) (c : Cg) (hc : c.k ≠ 1) : renP (reD φ n d) c = (reD φ n (renP d c).1, (renP d c).2) ∧ Rn φ P n (renP d c).1 := by
  have hm : mC φ c = c := by unfold mC; rw [if_neg hc]
  have e1 := doP_map φ diskP d.F c
  have e2 := errP_map φ diskP d.F c
  rw [hm] at e1 e2
  refine ⟨?_, h.same (fun i hi => ?_) rfl⟩
  · unfold renP reD
    dsimp only
    rw [e1, e2]
  · have : idsP (renP d c).1.F = idsP d.F := ids_do d.F c hc
    rw [this] at hi; exact hi
theorem re_create {m : Nat} {n : Int} {d : Dk} (h : Rn φ P n d) (ho : d.Ok m) (s : ByteArray) : ∃ n', createP (reD φ n d) s = (reD φ n' (createP d s).1, (createP d s).2) ∧ Rn φ P n' (createP d s).1 := by
  have hn := h.next (d.last + 1) (by omega)
  have hid : φ (d.last + 1) = n + 1 := by rw [hn.2]; omega
  have hm : mC φ ⟨1, s, ⟨#[]⟩, d.last + 1⟩ = ⟨1, s, ⟨#[]⟩, n + 1⟩ := by
    unfold mC; rw [if_pos rfl]; dsimp only; rw [hid]
  have e1 := doP_map φ diskP d.F ⟨1, s, ⟨#[]⟩, d.last + 1⟩
  have e2 := errP_map φ diskP d.F ⟨1, s, ⟨#[]⟩, d.last + 1⟩
  rw [hm] at e1 e2
  have hl := mK_length φ d.K
  unfold createP
  show ∃ n', (if d.lf ≤ ((mK φ d.K).length : Int) then _ else if errP diskP (mF φ d.F) ⟨1, s, ⟨#[]⟩, n + 1⟩ = 0 then _ else _) = _ ∧ _
  rw [hl, e2]
  by_cases h1 : d.lf ≤ (d.K.length : Int)
  · rw [if_pos h1, if_pos h1]; exact ⟨n, rfl, h⟩
  rw [if_neg h1, if_neg h1]
  by_cases h2 : errP diskP d.F ⟨1, s, ⟨#[]⟩, d.last + 1⟩ = 0
  · rw [if_pos h2, if_pos h2]
    refine ⟨n + 1, ?_, h.mo, fun i hi => ?_, fun i hi => ?_⟩
    · unfold reD
      dsimp only
      rw [e1, mK_append]
      show _ = (({ d with F := _, K := mK φ d.K ++ [⟨φ (d.last + 1), fi0⟩], last := n + 1 } : Dk), (0 : Int))
      rw [hid]
    · have hF : doP diskP d.F ⟨1, s, ⟨#[]⟩, d.last + 1⟩ = ⟨d.F.l, d.F.p ++ [⟨1, s, ⟨#[]⟩, d.last + 1⟩]⟩ := by unfold doP; rw [if_pos h2]
      dsimp only at hi
      rw [hF, ids_new d.F ⟨1, s, ⟨#[]⟩, d.last + 1⟩ rfl (fun i hi => by have := ho.low i hi; show i < d.last + 1; omega)] at hi
      rcases List.mem_append.1 hi with hi | hi
      · exact h.ids i hi
      · obtain rfl := List.mem_singleton.1 hi; exact hn.1
    · dsimp only at hi
      obtain ⟨h3, h4⟩ := h.next i (by omega)
      exact ⟨h3, by dsimp only; omega⟩
  · rw [if_neg h2, if_neg h2]
    refine ⟨n, ?_, h⟩
    show (reD φ n d, errP diskP (mF φ d.F) ⟨1, s, ⟨#[]⟩, n + 1⟩) = (reD φ n d, _)
    rw [e2]
theorem re_edit {m : Nat} {n : Int} {d : Dk} (h : Rn φ P n d) (ho : d.Ok m) (s : ByteArray) {g g' : Fi → Fi × Int} (hg : ∀ x, g' x = g x) : editP (reD φ n d) s g' = (reD φ n (editP d s g).1, (editP d s g).2) ∧ Rn φ P n (editP d s g).1 := by
  obtain rfl : g' = g := funext hg
  unfold editP
  show (match findP (nowQ (mF φ d.F)) s with | none => _ | some i => if (g' (atK (mK φ d.K) i)).2 = 0 then _ else _) = _ ∧ _
  rw [now_map, findP_map]
  cases hf : findP (nowQ d.F) s with
  | none => exact ⟨rfl, h⟩
  | some i =>
    have hp := h.find hf
    show (if (g' (atK (mK φ d.K) (φ i))).2 = 0 then (({ reD φ n d with K := setK (mK φ d.K) (φ i) (g' (atK (mK φ d.K) (φ i))).1 } : Dk), (0 : Int)) else (reD φ n d, (g' (atK (mK φ d.K) (φ i))).2)) = _ ∧ _
    rw [atK_map h.mo (h.kids ho) hp, setK_map h.mo (h.kids ho) hp]
    dsimp only
    split
    · exact ⟨rfl, h.same (fun i hi => hi) rfl⟩
    · exact ⟨rfl, h⟩
theorem appX_eq {e d : Dk} (hl : e.lb = d.lb) (hu : usedK e.K = usedK d.K) (b : List Int) (x : Fi) : appX e b x = appX d b x := by unfold appX; rw [hl, hu]
theorem re_eff {m : Nat} {n : Int} {d : Dk} (h : Rn φ P n d) (ho : d.Ok m) (c : Cl) : ∃ n', effP (reD φ n d) c = (reD φ n' (effP d c).1, (effP d c).2) ∧ Rn φ P n' (effP d c).1 := by
  unfold effP
  split
  · exact re_create h ho _
  split
  · exact ⟨n, re_edit h ho _ fun x => appX_eq (e := reD φ n d) (d := d) rfl (used_map φ d.K) c.dat x⟩
  split
  · exact ⟨n, re_edit h ho _ fun x => rfl⟩
  split
  · exact ⟨n, re_edit h ho _ fun x => rfl⟩
  split
  · exact ⟨n, re_ren h _ (by show (2 : Int) ≠ 1; decide)⟩
  split
  · exact ⟨n, re_ren h _ (by show (3 : Int) ≠ 1; decide)⟩
  · exact ⟨n, re_sync h ho⟩
theorem re_step {m : Nat} {n : Int} {d : Dk} (h : Rn φ P n d) (ho : d.Ok m) (c : Cl) : ∃ n', stepP (reD φ n d) c = (reD φ n' (stepP d c).1, (stepP d c).2) ∧ Rn φ P n' (stepP d c).1 := by
  unfold stepP powP
  split
  · rw [show downP (reD φ n d) = downP d from rfl]
    split
    · exact ⟨n, rfl, h.same (fun i hi => hi) rfl⟩
    · exact re_eff (d := tickP d) (h.same (fun i hi => hi) rfl) (tick_ok ho) c
  split
  · exact ⟨n, rfl, h.same (fun i hi => hi) rfl⟩
  split
  · obtain ⟨h1, h2⟩ := re_crash h ho c.dat
    exact ⟨n, by rw [h1], h2⟩
  · exact ⟨n, rfl, h⟩

theorem re_bytes {m : Nat} {n : Int} {d : Dk} (h : Rn φ P n d) (ho : d.Ok m) (s : ByteArray) : bytesP (reD φ n d) s = bytesP d s := by
  unfold bytesP
  show (if d.off = true then _ else match findP (nowQ (mF φ d.F)) s with | none => _ | some i => (nowP (atK (mK φ d.K) i), (0 : Int))) = _
  rw [now_map, findP_map]
  split
  · rfl
  · cases hf : findP (nowQ d.F) s with
    | none => rfl
    | some i =>
      show (nowP (atK (mK φ d.K) (φ i)), (0 : Int)) = _
      rw [atK_map h.mo (h.kids ho) (h.find hf)]
theorem re_read {m : Nat} {n : Int} {d : Dk} (h : Rn φ P n d) (ho : d.Ok m) (s : ByteArray) (o k : Int) : readP (reD φ n d) s o k = readP d s o k := by
  unfold readP
  rw [re_bytes h ho]
theorem re_names {n : Int} {d : Dk} : namesP (reD φ n d) = namesP d := by
  unfold namesP
  show (nowQ (mF φ d.F)).map Nd.s = _
  rw [now_map, List.map_map]; rfl
theorem re_image {m : Nat} {n : Int} {d : Dk} (h : Rn φ P n d) (ho : d.Ok m) : imageP (reD φ n d) = imageP d := by
  unfold imageP
  show (d.F.l.map (mN φ)).map (fun x => (x.s, (atK (mK φ d.K) x.id).b)) = _
  rw [List.map_map]
  apply List.map_congr_left
  intro x hx
  show (x.s, (atK (mK φ d.K) (φ x.id)).b) = (x.s, (atK d.K x.id).b)
  rw [atK_map h.mo (h.kids ho) (h.ids _ ((mem_idsP' _ _).2 (Or.inl ⟨x.s, (find_mem ho.rise _ _).2 hx⟩)))]
end
end Go.Proofs.YtncbgddgkpaoeaaGreat

namespace Go.Proofs.YtncbgddgkpaoeaaGreat
set_option linter.unusedVariables false

/-- a file that a disk can have -/
def accP (f : ByteArray × List Int) : Bool := diskP (numsOf f.1) && decide (f.2.length ≤ 1048576)
def nmA : Nat → List (ByteArray × List Int) → List Nd
  | _, [] => []
  | k, a :: A => ⟨a.1, (k : Int) + 1⟩ :: nmA (k + 1) A
def fkA : Nat → List (ByteArray × List Int) → List Kt
  | _, [] => []
  | k, a :: A => ⟨(k : Int) + 1, ⟨a.2, []⟩⟩ :: fkA (k + 1) A
/-- the program's files -/
def ldA (fs : List (ByteArray × List Int)) : List (ByteArray × List Int) := fs.filter accP
/-- the reference's -/
def ldS (B : List (ByteArray × List Int)) (f : ByteArray × List Int) : List (ByteArray × List Int) := if accP f = true ∧ findP (nmA 0 B) f.1 = none then B ++ [f] else B
def ldB (fs : List (ByteArray × List Int)) : List (ByteArray × List Int) := fs.foldl ldS []
def ldF (A : List (ByteArray × List Int)) : Fd := ⟨nmA 0 A, []⟩
def loadC (lb lf : Int) (fs : List (ByteArray × List Int)) : Dk :=
  ⟨lb, lf, syncQ (ldF (ldA fs)), tidyK (fkA 0 (ldA fs)) (idsP (syncQ (ldF (ldA fs)))), (ldA fs).length, -1, false, 0⟩
def loadR (lb lf : Int) (fs : List (ByteArray × List Int)) : Dk :=
  ⟨lb, lf, syncQ (ldF (ldB fs)), fkA 0 (ldB fs), (ldB fs).length, -1, false, 0⟩

theorem nmA_snoc (a : ByteArray × List Int) : ∀ (A : List (ByteArray × List Int)) (k : Nat), nmA k (A ++ [a]) = nmA k A ++ [⟨a.1, ((k + A.length : Nat) : Int) + 1⟩]
  | [], k => rfl
  | b :: A, k => by
    rw [List.cons_append, nmA, nmA, nmA_snoc a A (k + 1), List.cons_append, List.length_cons]
    congr 4
    omega
theorem fkA_snoc (a : ByteArray × List Int) : ∀ (A : List (ByteArray × List Int)) (k : Nat), fkA k (A ++ [a]) = fkA k A ++ [⟨((k + A.length : Nat) : Int) + 1, ⟨a.2, []⟩⟩]
  | [], k => rfl
  | b :: A, k => by
    rw [List.cons_append, fkA, fkA, fkA_snoc a A (k + 1), List.cons_append, List.length_cons]
    congr 4
    omega
theorem nmA_length : ∀ (A : List (ByteArray × List Int)) (k : Nat), (nmA k A).length = A.length
  | [], k => rfl
  | b :: A, k => by rw [nmA, List.length_cons, nmA_length A (k + 1), List.length_cons]
theorem fkA_length : ∀ (A : List (ByteArray × List Int)) (k : Nat), (fkA k A).length = A.length
  | [], k => rfl
  | b :: A, k => by rw [fkA, List.length_cons, fkA_length A (k + 1), List.length_cons]
theorem nmA_mem : ∀ (A : List (ByteArray × List Int)) (k : Nat) (x : Nd), x ∈ nmA k A → ∃ a ∈ A, x.s = a.1 ∧ (k : Int) < x.id ∧ x.id ≤ ((k + A.length : Nat) : Int)
  | [], k, x, h => by cases h
  | b :: A, k, x, h => by
    rcases List.mem_cons.1 h with rfl | h
    · exact ⟨b, List.mem_cons_self, rfl, by dsimp only; omega, by dsimp only; simp; omega⟩
    · obtain ⟨a, ha, h1, h2, h3⟩ := nmA_mem A (k + 1) x h
      exact ⟨a, List.mem_cons_of_mem _ ha, h1, by omega, by rw [List.length_cons]; omega⟩
theorem fkA_ids : ∀ (A : List (ByteArray × List Int)) (k : Nat), idK (fkA k A) = (nmA k A).map Nd.id
  | [], k => rfl
  | b :: A, k => by
    show ((k : Int) + 1) :: idK (fkA (k + 1) A) = ((k : Int) + 1) :: (nmA (k + 1) A).map Nd.id
    rw [fkA_ids A (k + 1)]
theorem nmA_rises : ∀ (A : List (ByteArray × List Int)) (k : Nat), irises ((nmA k A).map Nd.id)
  | [], k => List.Pairwise.nil
  | b :: A, k => by
    refine List.pairwise_cons.2 ⟨fun j hj => ?_, nmA_rises A (k + 1)⟩
    obtain ⟨x, hx, rfl⟩ := List.mem_map.1 hj
    obtain ⟨_, _, _, h2, _⟩ := nmA_mem A (k + 1) x hx
    show (k : Int) + 1 < x.id
    omega
theorem find_snoc (l : List Nd) (x : Nd) (s : ByteArray) : findP (l ++ [x]) s = (findP l s).or (if x.s = s then some x.id else none) := by
  induction l with
  | nil => rfl
  | cons y l ih =>
    rw [List.cons_append, findP, findP]
    split
    · rfl
    · exact ih
/-- how the program's numbers and the reference's hang together: J: the numbers of the files that have their names -/
structure Ld (A B : List (ByteArray × List Int)) (J : List Int) : Prop where
  len : J.length = B.length
  rise : irises J
  low : ∀ i ∈ J, 1 ≤ i ∧ i ≤ (A.length : Int)
  find : ∀ s, findP (nmA 0 A) s = (findP (nmA 0 B) s).map fun r => J.getD (r - 1).toNat 0
  file : ∀ r, r < B.length → getK (fkA 0 A) (J.getD r 0) = some ⟨(B.getD r (⟨#[]⟩, [])).2, []⟩
  name : ∀ r, r < B.length → findP (nmA 0 B) (B.getD r (⟨#[]⟩, [])).1 = some ((r : Int) + 1)
theorem Ld.nil : Ld [] [] [] := ⟨rfl, List.Pairwise.nil, fun i h => (by cases h), fun s => rfl, fun r h => absurd h (Nat.not_lt_zero _), fun r h => absurd h (Nat.not_lt_zero _)⟩
theorem find_rank {B : List (ByteArray × List Int)} {s : ByteArray} {r : Int} (h : findP (nmA 0 B) s = some r) : 1 ≤ r ∧ r ≤ (B.length : Int) := by
  have : ∃ x ∈ nmA 0 B, x.id = r := by
    generalize nmA 0 B = l at h
    induction l with
    | nil => cases h
    | cons y l ih =>
      rw [findP] at h
      split at h
      · exact ⟨y, List.mem_cons_self, Option.some.inj h⟩
      · obtain ⟨x, hx, e⟩ := ih h
        exact ⟨x, List.mem_cons_of_mem _ hx, e⟩
  obtain ⟨x, hx, rfl⟩ := this
  obtain ⟨_, _, _, h2, h3⟩ := nmA_mem B 0 x hx
  rw [Nat.zero_add] at h3
  omega
theorem getK_snoc {K : List Kt} {i : Int} {x y : Fi} {j : Int} (h : getK K i = some x) : getK (K ++ [⟨j, y⟩]) i = some x := by rw [getK_append, h]; rfl
theorem Ld.step {A B : List (ByteArray × List Int)} {J : List Int} (h : Ld A B J) (f : ByteArray × List Int) (hf : accP f = true) : ∃ J', Ld (A ++ [f]) (ldS B f) J' := by
  have hA := nmA_snoc f A 0
  have hK := fkA_snoc f A 0
  rw [Nat.zero_add] at hA hK
  by_cases hn : findP (nmA 0 B) f.1 = none
  · have hB := nmA_snoc f B 0
    rw [Nat.zero_add] at hB
    have hd : ldS B f = B ++ [f] := by unfold ldS; rw [if_pos ⟨hf, hn⟩]
    rw [hd]
    refine ⟨J ++ [(A.length : Int) + 1], ?_, ?_, ?_, ?_, ?_, ?_⟩
    · rw [List.length_append, List.length_append, h.len]; rfl
    · refine List.pairwise_append.2 ⟨h.rise, List.pairwise_singleton _ _, fun a ha b hb => ?_⟩
      obtain rfl := List.mem_singleton.1 hb
      have := h.low a ha
      omega
    · intro i hi
      rw [List.length_append]
      rcases List.mem_append.1 hi with hi | hi
      · have := h.low i hi; simp; omega
      · obtain rfl := List.mem_singleton.1 hi; simp; omega
    · intro s
      rw [hA, hB, find_snoc, find_snoc, h.find s]
      cases hs : findP (nmA 0 B) s with
      | some r =>
        have hr := find_rank hs
        show some _ = some _
        congr 1
        dsimp only
        rw [List.getD_eq_getElem?_getD, List.getD_eq_getElem?_getD, List.getElem?_append_left (by rw [h.len]; omega)]
      | none =>
        show (if f.1 = s then some ((A.length : Int) + 1) else none) = (if f.1 = s then some ((B.length : Int) + 1) else none).map _
        split
        · show some _ = some _
          congr 1
          dsimp only
          have e : ((B.length : Int) + 1 - 1).toNat = J.length := by rw [h.len]; omega
          rw [e, List.getD_eq_getElem?_getD, List.getElem?_append_right (Nat.le_refl _), Nat.sub_self]
          rfl
        · rfl
    · intro r hr
      rw [hK]
      rw [List.length_append] at hr
      by_cases hlt : r < B.length
      · rw [List.getD_eq_getElem?_getD, List.getElem?_append_left (by rw [h.len]; exact hlt), List.getD_eq_getElem?_getD, List.getElem?_append_left hlt, ← List.getD_eq_getElem?_getD, ← List.getD_eq_getElem?_getD]
        exact getK_snoc (h.file r hlt)
      · obtain rfl : r = B.length := by simp at hr; omega
        rw [List.getD_eq_getElem?_getD, List.getElem?_append_right (by rw [h.len]; exact Nat.le_refl _), h.len, Nat.sub_self, List.getD_eq_getElem?_getD, List.getElem?_append_right (Nat.le_refl _), Nat.sub_self]
        show getK _ ((A.length : Int) + 1) = some ⟨f.2, []⟩
        rw [getK_append, getK_none, Option.none_or, getK, if_pos rfl]
        rw [fkA_ids]
        intro hm
        obtain ⟨x, hx, e⟩ := List.mem_map.1 hm
        obtain ⟨_, _, _, _, h3⟩ := nmA_mem A 0 x hx
        rw [Nat.zero_add] at h3
        omega
    · intro r hr
      rw [hB, find_snoc]
      rw [List.length_append] at hr
      by_cases hlt : r < B.length
      · have := h.name r hlt
        rw [List.getD_eq_getElem?_getD, List.getElem?_append_left hlt, ← List.getD_eq_getElem?_getD, this]
        rfl
      · obtain rfl : r = B.length := by simp at hr; omega
        rw [List.getD_eq_getElem?_getD, List.getElem?_append_right (Nat.le_refl _), Nat.sub_self]
        show (findP (nmA 0 B) f.1).or (if f.1 = f.1 then _ else none) = _
        rw [hn, if_pos rfl]; rfl
  · have hd : ldS B f = B := by unfold ldS; rw [if_neg (fun h => hn h.2)]
    rw [hd]
    refine ⟨J, h.len, h.rise, fun i hi => ?_, fun s => ?_, fun r hr => ?_, h.name⟩
    · have := h.low i hi; rw [List.length_append]; simp; omega
    · rw [hA, find_snoc, h.find s]
      cases hs : findP (nmA 0 B) s with
      | some r => rfl
      | none =>
        show (if f.1 = s then _ else none) = none
        rw [if_neg (fun e => hn (by rw [e]; exact hs))]
    · rw [hK]; exact getK_snoc (h.file r hr)
theorem ldB_snoc (fs : List (ByteArray × List Int)) (f : ByteArray × List Int) : ldB (fs ++ [f]) = ldS (ldB fs) f := by
  unfold ldB; rw [List.foldl_append]; rfl
theorem ldA_snoc (fs : List (ByteArray × List Int)) (f : ByteArray × List Int) : ldA (fs ++ [f]) = if accP f = true then ldA fs ++ [f] else ldA fs := by
  unfold ldA
  rw [List.filter_append]
  by_cases h : accP f = true
  · rw [if_pos h, List.filter_cons, if_pos h]; rfl
  · rw [if_neg h, List.filter_cons, if_neg h]; simp
theorem ld_of (fs : List (ByteArray × List Int)) : ∃ J, Ld (ldA fs) (ldB fs) J := by
  have key : ∀ n, n ≤ fs.length → ∃ J, Ld (ldA (fs.take n)) (ldB (fs.take n)) J := by
    intro n
    induction n with
    | zero => exact fun _ => ⟨[], Ld.nil⟩
    | succ n ih =>
      intro hn
      obtain ⟨J, hJ⟩ := ih (by omega)
      rw [List.take_succ_eq_append_getElem (by omega), ldB_snoc, ldA_snoc]
      by_cases h : accP fs[n] = true
      · rw [if_pos h]; exact hJ.step _ h
      · rw [if_neg h]
        have : ldS (ldB (fs.take n)) fs[n] = ldB (fs.take n) := by unfold ldS; rw [if_neg (fun h' => h h'.1)]
        rw [this]
        exact ⟨J, hJ⟩
  have := key fs.length (Nat.le_refl _)
  rwa [List.take_length] at this
end Go.Proofs.YtncbgddgkpaoeaaGreat

namespace Go.Proofs.YtncbgddgkpaoeaaGreat
set_option linter.unusedVariables false

/-- how many of J are no greater -/
def cntJ (J : List Int) (i : Int) : Nat := (J.filter fun j => decide (j ≤ i)).length
/-- the program's number n + k is the reference's J.length + k -/
def phJ (J : List Int) (n : Int) (i : Int) : Int := (cntJ J i : Int) + (if n < i then i - n else 0)
theorem cntJ_le (J : List Int) (i : Int) : cntJ J i ≤ J.length := List.length_filter_le _ _
theorem cntJ_all {J : List Int} {i : Int} (h : ∀ j ∈ J, j ≤ i) : cntJ J i = J.length := by
  unfold cntJ
  rw [List.filter_eq_self.2 fun j hj => by simpa using h j hj]
theorem cntJ_mono {J : List Int} {i j : Int} (h : i ≤ j) : cntJ J i ≤ cntJ J j := by
  unfold cntJ
  induction J with
  | nil => exact Nat.le_refl _
  | cons x J ih =>
    rw [List.filter_cons, List.filter_cons]
    by_cases h1 : x ≤ i
    · rw [if_pos (by simpa using h1), if_pos (by simp; omega)]; simpa using ih
    · rw [if_neg (by simpa using h1)]
      split
      · rw [List.length_cons]; omega
      · exact ih
theorem cntJ_lt {J : List Int} {i j : Int} (h : i < j) (hj : j ∈ J) : cntJ J i < cntJ J j := by
  induction J with
  | nil => cases hj
  | cons x J ih =>
    have hm := cntJ_mono (J := J) (Int.le_of_lt h)
    unfold cntJ at *
    rw [List.filter_cons, List.filter_cons]
    rcases List.mem_cons.1 hj with rfl | hj
    · rw [if_neg (by simp; omega), if_pos (by simp), List.length_cons]; omega
    · have := ih hj
      by_cases h1 : x ≤ i
      · rw [if_pos (by simpa using h1), if_pos (by simp; omega), List.length_cons, List.length_cons]; omega
      · rw [if_neg (by simpa using h1)]
        split
        · rw [List.length_cons]; omega
        · exact this
theorem cntJ_at : ∀ {J : List Int}, irises J → ∀ r, r < J.length → cntJ J (J.getD r 0) = r + 1
  | [], _, r, h => absurd h (Nat.not_lt_zero _)
  | x :: J, hr, 0, _ => by
    obtain ⟨h1, h2⟩ := List.pairwise_cons.1 hr
    show cntJ (x :: J) x = 1
    unfold cntJ
    rw [List.filter_cons, if_pos (by simp), List.length_cons]
    have : J.filter (fun j => decide (j ≤ x)) = [] := by
      rw [List.filter_eq_nil_iff]
      intro j hj
      have := h1 j hj
      simp; omega
    rw [this]; rfl
  | x :: J, hr, r + 1, h => by
    obtain ⟨h1, h2⟩ := List.pairwise_cons.1 hr
    have h' : r < J.length := by simpa using h
    have hm : J.getD r 0 ∈ J := by
      rw [List.getD_eq_getElem?_getD, List.getElem?_eq_getElem h']
      exact List.getElem_mem h'
    show cntJ (x :: J) (J.getD r 0) = r + 1 + 1
    have := cntJ_at h2 r h'
    unfold cntJ at *
    rw [List.filter_cons, if_pos (by have := h1 _ hm; simp only [decide_eq_true_eq]; omega), List.length_cons, this]
section
variable {A B : List (ByteArray × List Int)} {J : List Int}
theorem Ld.mem (h : Ld A B J) {r : Nat} (hr : r < B.length) : J.getD r 0 ∈ J := by
  rw [← h.len] at hr
  rw [List.getD_eq_getElem?_getD, List.getElem?_eq_getElem hr]
  exact List.getElem_mem hr
theorem Ld.ph_in (h : Ld A B J) {i : Int} (hi : i ∈ J) : phJ J (A.length : Int) i = cntJ J i := by
  unfold phJ
  have := h.low i hi
  rw [if_neg (by omega)]; omega
theorem Ld.ph_out (h : Ld A B J) {i : Int} (hi : (A.length : Int) < i) : phJ J (A.length : Int) i = i - (A.length : Int) + (B.length : Int) := by
  unfold phJ
  rw [if_pos hi, cntJ_all (fun j hj => by have := h.low j hj; omega), h.len]; omega
theorem Ld.ph_at (h : Ld A B J) {r : Nat} (hr : r < B.length) : phJ J (A.length : Int) (J.getD r 0) = (r : Int) + 1 := by
  rw [h.ph_in (h.mem hr), cntJ_at h.rise r (by rw [h.len]; exact hr)]; rfl
theorem Ld.mo (h : Ld A B J) : Mo (phJ J (A.length : Int)) (fun i => i ∈ J ∨ (A.length : Int) < i) := by
  intro i j hi hj hlt
  have hi2 : i ∈ J → i ≤ (A.length : Int) := fun hm => (h.low i hm).2
  rcases hj with hj | hj
  · rcases hi with hi | hi
    · rw [h.ph_in hi, h.ph_in hj]
      have := cntJ_lt hlt hj
      omega
    · have := h.low j hj; omega
  · rw [h.ph_out hj]
    rcases hi with hi | hi
    · rw [h.ph_in hi]
      have := cntJ_le J i
      rw [h.len] at this
      omega
    · rw [h.ph_out hi]; omega
theorem findB_mem (l : List Nd) (s : ByteArray) (i : Int) (h : findP l s = some i) : ∃ x ∈ l, x.s = s ∧ x.id = i := by
  induction l with
  | nil => cases h
  | cons y l ih =>
    rw [findP] at h
    split at h
    · rename_i e; exact ⟨y, List.mem_cons_self, e, Option.some.inj h⟩
    · obtain ⟨x, hx, e⟩ := ih h
      exact ⟨x, List.mem_cons_of_mem _ hx, e⟩
theorem now_find (l : List Nd) : rises (nowQ ⟨l, []⟩) ∧ findP (nowQ ⟨l, []⟩) = findP l := by
  have h := beh_both ⟨l, []⟩ 0
  exact h
/-- the numbers of the files that have names -/
theorem Ld.ids (h : Ld A B J) : idsP (syncQ (ldF A)) = J := by
  refine irises_ext (idsP_rises _) h.rise fun i => ?_
  rw [mem_idsP']
  constructor
  · rintro (⟨s, hs⟩ | ⟨c, hc, _⟩)
    · have hs' : findP (nmA 0 A) s = some i := by rw [← (now_find (nmA 0 A)).2]; exact hs
      rw [h.find s] at hs'
      obtain ⟨r, hr, rfl⟩ := Option.map_eq_some_iff.1 hs'
      have := find_rank hr
      exact h.mem (by omega)
    · cases hc
  · intro hi
    obtain ⟨r, hr, rfl⟩ := List.getElem_of_mem hi
    have hr' : r < B.length := by rw [← h.len]; exact hr
    left
    refine ⟨(B.getD r (⟨#[]⟩, [])).1, ?_⟩
    show findP (nowQ (ldF A)) _ = _
    rw [show findP (nowQ (ldF A)) = findP (nmA 0 A) from (now_find (nmA 0 A)).2, h.find, h.name r hr']
    show some _ = some _
    congr 1
    dsimp only
    rw [show ((r : Int) + 1 - 1).toNat = r by omega, List.getD_eq_getElem?_getD, List.getElem?_eq_getElem hr]
    rfl
theorem Ld.names (h : Ld A B J) : (nowQ (ldF A)).map (mN (phJ J (A.length : Int))) = nowQ (ldF B) := by
  have hA := now_find (nmA 0 A)
  have hB := now_find (nmA 0 B)
  refine rises_ext ?_ hB.1 fun s i => ?_
  · exact List.pairwise_map.2 (List.Pairwise.imp (fun h => h) hA.1)
  · rw [findP_map, show findP (nowQ (ldF A)) = findP (nmA 0 A) from hA.2, show findP (nowQ (ldF B)) = findP (nmA 0 B) from hB.2, h.find s]
    cases hs : findP (nmA 0 B) s with
    | none => simp
    | some r =>
      have hr := find_rank hs
      have e : phJ J (A.length : Int) (J.getD (r - 1).toNat 0) = r := by
        rw [h.ph_at (by omega)]; omega
      show some (phJ J (A.length : Int) (J.getD (r - 1).toNat 0)) = some i ↔ _
      rw [e]
theorem fkA_get : ∀ (B : List (ByteArray × List Int)) (k r : Nat), r < B.length → (fkA k B)[r]? = some ⟨((k + r : Nat) : Int) + 1, ⟨(B.getD r (⟨#[]⟩, [])).2, []⟩⟩
  | [], k, r, h => absurd h (Nat.not_lt_zero _)
  | b :: B, k, 0, _ => rfl
  | b :: B, k, r + 1, h => by
    show (fkA (k + 1) B)[r]? = _
    rw [fkA_get B (k + 1) r (by simpa using h)]
    show some _ = some _
    rw [show k + 1 + r = k + (r + 1) by omega]
    rfl
theorem Ld.files (h : Ld A B J) : mK (phJ J (A.length : Int)) (tidyK (fkA 0 A) J) = fkA 0 B := by
  apply List.ext_getElem?
  intro r
  unfold mK tidyK
  rw [List.map_map, List.getElem?_map]
  by_cases hr : r < B.length
  · rw [fkA_get B 0 r hr, List.getElem?_eq_getElem (by rw [h.len]; exact hr)]
    have e : J[r]'(by rw [h.len]; exact hr) = J.getD r 0 := by rw [List.getD_eq_getElem?_getD, List.getElem?_eq_getElem (by rw [h.len]; exact hr)]; rfl
    show some (⟨phJ J (A.length : Int) _, atK (fkA 0 A) _⟩ : Kt) = _
    rw [e, h.ph_at hr]
    unfold atK
    rw [h.file r hr, Nat.zero_add]
    rfl
  · rw [List.getElem?_eq_none (by rw [h.len]; omega), List.getElem?_eq_none (by rw [fkA_length]; omega)]
    rfl
end
theorem load_rel (lb lf : Int) (fs : List (ByteArray × List Int)) : ∃ φ P, loadR lb lf fs = reD φ (ldB fs).length (loadC lb lf fs) ∧ Rn φ P (ldB fs).length (loadC lb lf fs) := by
  obtain ⟨J, h⟩ := ld_of fs
  refine ⟨phJ J ((ldA fs).length : Int), fun i => i ∈ J ∨ ((ldA fs).length : Int) < i, ?_, h.mo, ?_, ?_⟩
  · unfold loadR loadC reD mF
    dsimp only
    have e1 : (syncQ (ldF (ldA fs))).l.map (mN (phJ J ((ldA fs).length : Int))) = (syncQ (ldF (ldB fs))).l := h.names
    rw [h.ids, h.files, e1]
    rfl
  · intro i hi
    left
    rw [← h.ids]; exact hi
  · intro i hi
    exact ⟨Or.inr hi, h.ph_out hi⟩
end Go.Proofs.YtncbgddgkpaoeaaGreat

namespace Go.Proofs.YtncbgddgkpaoeaaGreat
set_option linter.unusedVariables false

theorem acc_size {f : ByteArray × List Int} (h : accP f = true) : f.1.size ≤ 32 ∧ f.2.length ≤ 1048576 := by
  unfold accP at h
  rw [Bool.and_eq_true, decide_eq_true_iff] at h
  refine ⟨?_, h.2⟩
  have h1 := h.1
  unfold diskP at h1
  rw [numsOf_length] at h1
  simp only [Bool.and_eq_true, decide_eq_true_eq] at h1
  omega
theorem ldA_length (fs : List (ByteArray × List Int)) : (ldA fs).length ≤ fs.length := List.length_filter_le _ _
theorem ldA_acc (fs : List (ByteArray × List Int)) : ∀ a ∈ ldA fs, accP a = true := fun a ha => (List.mem_filter.1 ha).2
theorem ldB_both (fs : List (ByteArray × List Int)) : (ldB fs).length ≤ fs.length ∧ ∀ a ∈ ldB fs, accP a = true := by
  have key : ∀ n, n ≤ fs.length → (ldB (fs.take n)).length ≤ n ∧ ∀ a ∈ ldB (fs.take n), accP a = true := by
    intro n
    induction n with
    | zero => exact fun _ => ⟨Nat.le_refl _, fun a ha => by cases ha⟩
    | succ n ih =>
      intro hn
      obtain ⟨h1, h2⟩ := ih (by omega)
      rw [List.take_succ_eq_append_getElem (by omega), ldB_snoc]
      unfold ldS
      split
      · rename_i h
        refine ⟨by rw [List.length_append]; simp; omega, fun a ha => ?_⟩
        rcases List.mem_append.1 ha with ha | ha
        · exact h2 a ha
        · obtain rfl := List.mem_singleton.1 ha; exact h.1
      · exact ⟨by omega, h2⟩
  have := key fs.length (Nat.le_refl _)
  rwa [List.take_length] at this
theorem ldF_ok {A : List (ByteArray × List Int)} (h : ∀ a ∈ A, accP a = true) (hl : A.length ≤ 1048576) : (ldF A).ok := by
  refine ⟨fun x hx => ?_, fun c hc => (by cases hc), by show (nmA 0 A).length + 0 ≤ _; rw [nmA_length]; omega⟩
  obtain ⟨a, ha, h1, h2, h3⟩ := nmA_mem A 0 x hx
  have := (acc_size (h a ha)).1
  refine ⟨by rw [h1]; omega, ?_⟩
  rw [Nat.zero_add] at h3
  unfold InI
  omega
theorem fkA_mem : ∀ (A : List (ByteArray × List Int)) (k : Nat) (y : Kt), y ∈ fkA k A → ∃ a ∈ A, y.x = ⟨a.2, []⟩
  | [], k, y, h => by cases h
  | b :: A, k, y, h => by
    rcases List.mem_cons.1 h with rfl | h
    · exact ⟨b, List.mem_cons_self, rfl⟩
    · obtain ⟨a, ha, e⟩ := fkA_mem A (k + 1) y h
      exact ⟨a, List.mem_cons_of_mem _ ha, e⟩
theorem loadC_ok {lb lf : Int} (h1 : InI lb) (h2 : InI lf) {fs : List (ByteArray × List Int)} {m : Nat} (hm : fs.length ≤ m) (hm2 : m ≤ 1048575) : (loadC lb lf fs).Ok m := by
  have hA := ldA_length fs
  have hF := ldF_ok (ldA_acc fs) (by omega)
  obtain ⟨J, hJ⟩ := ld_of fs
  have hl := behP_length (ldF (ldA fs)) (ldF (ldA fs)).p.length
  have hl2 : (nowQ (ldF (ldA fs))).length ≤ m := by
    have e : (ldF (ldA fs)).l.length = (ldA fs).length := nmA_length _ _
    have e2 : (ldF (ldA fs)).p.length = 0 := rfl
    have : (nowQ (ldF (ldA fs))).length ≤ (ldF (ldA fs)).l.length + (ldF (ldA fs)).p.length := hl
    omega
  exact {
    l := behP_ok hF _
    p := fun c hc => by cases hc
    len := by show (nowQ (ldF (ldA fs))).length + 0 ≤ m; omega
    rise := (beh_both _ _).1
    ids := idK_tidy _ _
    low := fun i hi => by
      have hi' : i ∈ J := by rw [← hJ.ids]; exact hi
      exact hJ.low i hi'
    last0 := by show (0 : Int) ≤ ((ldA fs).length : Int); omega
    last := by show ((ldA fs).length : Int) ≤ m; omega
    calls0 := Int.le_refl _
    calls := by show (0 : Int) ≤ m; omega
    x := fun k hk => by
      obtain ⟨i, hi, rfl⟩ := List.mem_map.1 (show k ∈ (idsP (syncQ (ldF (ldA fs)))).map _ from hk)
      dsimp only
      by_cases hin : i ∈ idK (fkA 0 (ldA fs))
      · obtain ⟨a, ha, e⟩ := fkA_mem _ _ _ (atK_mem hin)
        dsimp only at e
        rw [e]
        exact ⟨(acc_size (ldA_acc fs a ha)).2, Nat.zero_le _, fun c hc => (by cases hc)⟩
      · unfold atK
        rw [getK_none hin]
        exact ⟨by simp [fi0], by simp [fi0], fun c hc => by simp [fi0] at hc⟩
    lb := h1
    lf := h2
    fuse := by show InI (-1); unfold InI; omega }
theorem loadR_ok {lb lf : Int} (h1 : InI lb) (h2 : InI lf) {fs : List (ByteArray × List Int)} {m : Nat} (hm : fs.length ≤ m) (hm2 : m ≤ 1048575) : (loadR lb lf fs).Ok m := by
  have hC := loadC_ok h1 h2 hm hm2
  obtain ⟨hBl, hBa⟩ := ldB_both fs
  obtain ⟨φ, P, he, hr⟩ := load_rel lb lf fs
  have hF := ldF_ok hBa (by omega)
  have hids : idK (fkA 0 (ldB fs)) = idsP (syncQ (ldF (ldB fs))) := by
    have e1 : fkA 0 (ldB fs) = mK φ (loadC lb lf fs).K := congrArg Dk.K he
    have e2 : syncQ (ldF (ldB fs)) = mF φ (loadC lb lf fs).F := congrArg Dk.F he
    rw [e1, e2, idK_map, hC.ids, ids_map hr.mo hr.ids]
  have hl := behP_length (ldF (ldB fs)) (ldF (ldB fs)).p.length
  have hl2 : (nowQ (ldF (ldB fs))).length ≤ m := by
    have e : (ldF (ldB fs)).l.length = (ldB fs).length := nmA_length _ _
    have e2 : (ldF (ldB fs)).p.length = 0 := rfl
    have : (nowQ (ldF (ldB fs))).length ≤ (ldF (ldB fs)).l.length + (ldF (ldB fs)).p.length := hl
    omega
  exact {
    l := behP_ok hF _
    p := fun c hc => by cases hc
    len := by show (nowQ (ldF (ldB fs))).length + 0 ≤ m; omega
    rise := (beh_both _ _).1
    ids := hids
    low := fun i hi => by
      have hi' : i ∈ idK (fkA 0 (ldB fs)) := by rw [hids]; exact hi
      rw [fkA_ids] at hi'
      obtain ⟨x, hx, rfl⟩ := List.mem_map.1 hi'
      obtain ⟨_, _, _, h2, h3⟩ := nmA_mem (ldB fs) 0 x hx
      rw [Nat.zero_add] at h3
      show 1 ≤ x.id ∧ x.id ≤ ((ldB fs).length : Int)
      omega
    last0 := by show (0 : Int) ≤ ((ldB fs).length : Int); omega
    last := by show ((ldB fs).length : Int) ≤ m; omega
    calls0 := Int.le_refl _
    calls := by show (0 : Int) ≤ m; omega
    x := fun k hk => by
      obtain ⟨a, ha, e⟩ := fkA_mem _ _ _ (show k ∈ fkA 0 (ldB fs) from hk)
      rw [e]
      exact ⟨(acc_size (hBa a ha)).2, Nat.zero_le _, fun c hc => (by cases hc)⟩
    lb := h1
    lf := h2
    fuse := by show InI (-1); unfold InI; omega }
end Go.Proofs.YtncbgddgkpaoeaaGreat
