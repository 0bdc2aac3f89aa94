/- Layer 12: the statements DiskNone, DiskRoom and DiskLasts, together. -/
import Derived.Test.YtbjfbecpagdoeaaGreatDt4
import Derived.Test.YtbjfbecpagdoeaaGreatDt8
import Derived.Test.YtbjfbecpagdoeaaGreatDt30
import Derived.Test.YtbjfbecpagdoeaaGreatDt31
import Derived.Test.YtbjfbecpagdoeaaGreatDt33
namespace Go.Proofs.YtbjfbecpagdoeaaGreat
set_option linter.unusedVariables false
open Go.RowKit Go.Lib Go.Maps

def sa : ByteArray := ⟨#[97]⟩
def dv0 : Dk := newD 100 4
def dv1 : Dk := ⟨100, 4, ⟨[], [⟨1, sa, ⟨#[]⟩, 1⟩]⟩, [⟨1, fi0⟩], 1, -1, false, 1⟩
def dv2 : Dk := ⟨100, 4, ⟨[], [⟨1, sa, ⟨#[]⟩, 1⟩]⟩, [⟨1, ⟨[], [⟨0, false, [120, 121]⟩]⟩⟩], 1, -1, false, 2⟩
def dv3 : Dk := ⟨100, 4, ⟨[], [⟨1, sa, ⟨#[]⟩, 1⟩]⟩, [⟨1, ⟨[120, 121], []⟩⟩], 1, -1, false, 3⟩
def dv4 : Dk := ⟨100, 4, ⟨[⟨sa, 1⟩], []⟩, [⟨1, ⟨[120, 121], []⟩⟩], 1, -1, false, 4⟩
def dv5 : Dk := ⟨100, 4, ⟨[⟨sa, 1⟩], []⟩, [⟨1, ⟨[120, 121], [⟨2, false, [122]⟩]⟩⟩], 1, -1, false, 5⟩
def dv6 : Dk := ⟨100, 4, ⟨[⟨sa, 1⟩], []⟩, [⟨1, ⟨[120, 121], []⟩⟩], 1, -1, false, 5⟩
theorem lv1 : powP dv0 (fun d => createP d sa) = (dv1, 0) := by rfl
theorem lv2 : powP dv1 (fun d => editP d sa (appX d [120, 121])) = (dv2, 0) := by rfl
theorem lv3 : powP dv2 (fun d => editP d sa synX) = (dv3, 0) := by rfl
theorem lv4 : powP dv3 (fun d => syncDirP d) = (dv4, 0) := by rfl
theorem lv5 : powP dv4 (fun d => editP d sa (appX d [122])) = (dv5, 0) := by rfl
theorem lv6 : crashD dv5 [] = dv6 := by rfl
theorem lv7 : readP dv6 sa 0 2 = ([120, 121], 0) := by rfl
theorem lv8 : bytesP dv6 sa = ([120, 121], 0) := by rfl
theorem inI_lit {n : Int} (h : -1000 ≤ n ∧ n ≤ 1000) : InI n := by unfold InI; omega
theorem clA_ok (k : Int) (hk : 0 ≤ k ∧ k ≤ 9) (b : List Int) (hb : b.length ≤ 2) : (⟨k, sa, ⟨#[]⟩, b, 0⟩ : Cl).Ok := ⟨inI_lit (by dsimp only; omega), (by show sa.size ≤ 1048576; decide), (by show (⟨#[]⟩ : ByteArray).size ≤ 1048576; decide), by dsimp only; omega, inI_lit (by dsimp only; omega)⟩
theorem dv0_ok : dv0.Ok 0 := new_ok (inI_lit (by omega)) (inI_lit (by omega))
theorem dv1_ok : dv1.Ok 2 := by
  have := step_ok dv0_ok (by omega) (clA_ok 1 (by omega) [] (by decide))
  rwa [show stepP dv0 ⟨1, sa, ⟨#[]⟩, [], 0⟩ = (dv1, 0) from lv1] at this
theorem dv2_ok : dv2.Ok 4 := by
  have := step_ok dv1_ok (by omega) (clA_ok 2 (by omega) [120, 121] (by decide))
  rwa [show stepP dv1 ⟨2, sa, ⟨#[]⟩, [120, 121], 0⟩ = (dv2, 0) from lv2] at this
theorem dv3_ok : dv3.Ok 6 := by
  have := step_ok dv2_ok (by omega) (clA_ok 4 (by omega) [] (by decide))
  rwa [show stepP dv2 ⟨4, sa, ⟨#[]⟩, [], 0⟩ = (dv3, 0) from lv3] at this
theorem dv4_ok : dv4.Ok 8 := by
  have := step_ok dv3_ok (by omega) (clA_ok 7 (by omega) [] (by decide))
  rwa [show stepP dv3 ⟨7, sa, ⟨#[]⟩, [], 0⟩ = (dv4, 0) from lv4] at this
theorem dv5_ok : dv5.Ok 10 := by
  have := step_ok dv4_ok (by omega) (clA_ok 2 (by omega) [122] (by decide))
  rwa [show stepP dv4 ⟨2, sa, ⟨#[]⟩, [122], 0⟩ = (dv5, 0) from lv5] at this
theorem dv6_ok : dv6.Ok 10 := by
  have := crash_ok dv5_ok []
  rwa [lv6] at this

theorem sa_size : sa.size ≤ 1048576 := by decide
theorem Dw.below {w w' : World} {D M : Nat} {d : Dk} (h : Dw w D M d) (hb : Below w.heap.size w w') : Dw w' D M d := h.later hb
set_option maxRecDepth 100000 in
set_option maxHeartbeats 2000000 in
theorem dlives_any (w : World) : Calls Tryz.prog 12 #[] w fun e w' => e = .returned (.bool true) ∧ Below w.heap.size w w' := by
  have kc := fun (w : World) (C : Array Value) (n c : Nat) => Lib.run_convert_bytes_const (P := Tryz.prog) w 32 5 C n c Tryz.underlying32 Tryz.underlying5
  have KC := Lib.hid kc
  clear kc
  have HNEW := Lib.hid (dnew_any 100 4 (inI_lit (by omega)) (inI_lit (by omega)) w)
  go_enter Tryz.func12, Tryz.ntmps12
  go_wp2_with (first
    | (go_at_call 13; refine HNEW.out.mono ?_; rintro e w1 ⟨D, M, rfl, hw1, hD, hM, hb1⟩
       have HB1 := Lib.hid hb1
       have HDM : Hid (w.heap.size ≤ D ∧ w.heap.size ≤ M) := Lib.hid ⟨hD, hM⟩
       have HK1 : Hid (Kp D M w1 w1) := Lib.hid (Kp.refl _ _ _)
       have HC1 := Lib.hid (dcreate_any hw1 dv0_ok (by omega) sa sa_size)
       rw [show powP (newD 100 4) (fun d => createP d sa) = (dv1, 0) from lv1] at HC1
       clear hw1 hD hM hb1)
    | (go_at_call 15; refine HC1.out.mono ?_; rintro e w2 ⟨rfl, hw2, hk2⟩
       obtain ⟨wA0, hA0⟩ : ∃ W, w2.alloc (.cells #[.int .u8 120, .int .u8 121] 5) = W := ⟨_, rfl⟩
       obtain ⟨wA, hA⟩ : ∃ W, w2.alloc (.cells #[.int .u8 120, .int .u8 121] 5 (2, 3)) = W := ⟨_, rfl⟩
       have kcA := KC.out w2 #[.int .u8 120, .int .u8 121] 2 2
       rw [hA0] at kcA
       change _ = Result.ok _ (w2.alloc (.cells #[.int .u8 120, .int .u8 121] 5 (2, 3))) at kcA
       rw [hA] at kcA
       obtain ⟨G, hG⟩ : ∃ G, w2.heap.size = G := ⟨_, rfl⟩
       rw [hG] at kcA
       have hbA : Below w2.heap.size w2 wA := (by rw [← hA]; exact (Below.refl _ _).alloc (Nat.le_refl _) _)
       have HKA := Lib.hid (hk2.then_below hbA)
       have HC2 := Lib.hid (dappend_any (hw2.later hbA) dv1_ok (by omega) sa sa_size (some ⟨G, 0, none⟩) 2 2 [120, 121] (by rw [← hA, ← hG]; exact bs_lit_fr w2 5 _ _ [120, 121] 2 rfl (by intro j; match j with | 0 | 1 => decide | j + 2 => simp) rfl) (fun h => by cases h) (Nat.le_refl _) (by omega))
       rw [lv2] at HC2
       clear hw2 hk2 hbA HC1)
    | (go_at_call 16; refine HC2.out.mono ?_; rintro e w3 ⟨rfl, hw3, hk3⟩
       have HK3 := Lib.hid (HKA.out.trans hk3)
       have HC3 := Lib.hid (dsync_any hw3 dv2_ok (by omega) sa sa_size)
       rw [lv3] at HC3
       clear hw3 hk3 HC2)
    | (go_at_call 17; refine HC3.out.mono ?_; rintro e w4 ⟨rfl, hw4, hk4⟩
       have HK4 := Lib.hid (HK3.out.trans hk4)
       have HC4 := Lib.hid (dsyncdir_any hw4 dv3_ok (by omega))
       rw [lv4] at HC4
       clear hw4 hk4 HC3)
    | (go_at_call 18; refine HC4.out.mono ?_; rintro e w5 ⟨rfl, hw5, hk5⟩
       obtain ⟨wB0, hB0⟩ : ∃ W, w5.alloc (.cells #[.int .u8 122] 5) = W := ⟨_, rfl⟩
       obtain ⟨wB, hB⟩ : ∃ W, w5.alloc (.cells #[.int .u8 122] 5 (1, 2)) = W := ⟨_, rfl⟩
       have kcB := KC.out w5 #[.int .u8 122] 1 1
       rw [hB0] at kcB
       change _ = Result.ok _ (w5.alloc (.cells #[.int .u8 122] 5 (1, 2))) at kcB
       rw [hB] at kcB
       obtain ⟨H, hH⟩ : ∃ G, w5.heap.size = G := ⟨_, rfl⟩
       rw [hH] at kcB
       have hbB : Below w5.heap.size w5 wB := (by rw [← hB]; exact (Below.refl _ _).alloc (Nat.le_refl _) _)
       have HK5 := Lib.hid ((HK4.out.trans hk5).then_below hbB)
       have HC5 := Lib.hid (dappend_any (hw5.later hbB) dv4_ok (by omega) sa sa_size (some ⟨H, 0, none⟩) 1 1 [122] (by rw [← hB, ← hH]; exact bs_lit_fr w5 5 _ _ [122] 1 rfl (by intro j; match j with | 0 => decide | j + 1 => simp) rfl) (fun h => by cases h) (Nat.le_refl _) (by omega))
       rw [lv5] at HC5
       clear hw5 hk5 hbB HC4)
    | (go_at_call 16; refine HC5.out.mono ?_; rintro e w6 ⟨rfl, hw6, hk6⟩
       have HK6 := Lib.hid (HK5.out.trans hk6)
       have HW6 := Lib.hid hw6
       clear hw6 hk6 HC5))
  obtain ⟨wE, hE⟩ : ∃ W, w6.alloc (.cells #[.int .i64 0, .int .i64 0, .int .i64 0, .int .i64 0, .int .i64 0] 30) = W := ⟨_, rfl⟩
  obtain ⟨E, hEs⟩ : ∃ G, w6.heap.size = G := ⟨_, rfl⟩
  have hbE : Below w6.heap.size w6 wE := by rw [← hE]; exact (Below.refl _ _).alloc (Nat.le_refl _) _
  have HKE := Lib.hid (HK6.out.then_below hbE)
  have HWE := Lib.hid (HW6.out.later hbE)
  have HCE : Hid (∀ j, j < 5 → wE.cell? ⟨E, j, none⟩ = some (.int .i64 0)) := Lib.hid fun j hj => by
    have hh : wE.heap[E]? = some (.cells #[.int .i64 0, .int .i64 0, .int .i64 0, .int .i64 0, .int .i64 0] 30 (0, 0)) := by rw [← hE, ← hEs]; exact heap_alloc_new _ _
    rw [cell_of_row _ _ _ _ _ _ hh]
    match j, hj with
    | 0, _ | 1, _ | 2, _ | 3, _ | 4, _ => rfl
  simp only [hE, hEs]
  clear hE hEs hbE hA hA0 hG hB hB0 hH kcA kcB
  go_loopw [3] (fun i wr => ∃ j : Nat, j ≤ 5 ∧ i = .int .i64 (j : Int) ∧ wr = wE) (fun i _ => 5 - (intOf i).toNat)
  case atStart => exact ⟨0, by omega, rfl, rfl⟩
  case round =>
    obtain ⟨j, hj, rfl, rfl⟩ := hrel
    by_cases hlt : j < 5
    · have hc := HCE.out j hlt
      have hkn : (j : Int) < 5 := by omega
      have hk0 : (0 : Int) ≤ (j : Int) := by omega
      go_wp2
      refine ⟨?_, by simp [intOf] <;> omega⟩
      exact ⟨j + 1, by omega, by go_num, trivial⟩
    · obtain rfl : j = 5 := by omega
      have hstr : strOfNums [120, 121] = (⟨#[120, 121]⟩ : ByteArray) := by rfl
      go_wp2_with (first
        | (go_at_call 14; obtain ⟨x6, fu6, g6, hx6⟩ := HWE.out; refine (dcrash_any hx6 dv5_ok (by omega) none 0 0 [] (Bs.empty _ _) (fun _ => rfl) (Nat.le_refl _) (by omega)).mono ?_; rintro e w7 ⟨rfl, hw7, hk7⟩; rw [lv6] at hw7; have HW7 := Lib.hid hw7; have HK7 := Lib.hid (HKE.out.trans hk7); clear hw7 hk7 hx6)
        | (go_at_call 20; obtain ⟨x7, fu7, g7, hx7⟩ := HW7.out; refine (dread_any hx7 dv6_ok (by omega) sa sa_size 0 2 (inI_lit (by omega)) (inI_lit (by omega))).mono ?_; rintro e w8 ⟨p8, n8, c8, rfl, hb8, _, _, _, hbb8⟩; rw [lv7] at hb8 ⊢; obtain rfl : n8 = 2 := hb8.1.symm; have HW8 := Lib.hid (HW7.out.later hbb8); have HK8 := Lib.hid (HK7.out.then_below hbb8); have HS8 := Lib.hid hb8; clear hx7 hb8 hbb8)
        | (go_at_call 19; obtain ⟨x8, fu8, g8, hx8⟩ := HW8.out; refine (dsize_any hx8 dv6_ok (by omega) sa sa_size).mono ?_; rintro e w9 ⟨rfl, hb9⟩; rw [lv8]; have HW9 := Lib.hid (HW8.out.later hb9); have HK9 := Lib.hid (HK8.out.then_below hb9); have hrs := (HS8.out.later hb9).run_string (P := Tryz.prog) 32 5 9 Tryz.underlying32 Tryz.underlying5 Tryz.underlying9 c8; rw [hstr] at hrs; clear hx8 hb9)
        | (go_at_call 26; obtain ⟨x9, fu9, g9, hx9⟩ := HW9.out; refine (dcalls_any hx9).mono ?_; rintro e w10 ⟨rfl, rfl⟩; clear hx9))
      go_ret
      exact ⟨rfl, HK9.out.onto HB1.out HB1.out.size HDM.out.1 HDM.out.2⟩
end Go.Proofs.YtbjfbecpagdoeaaGreat

namespace Go.Proofs.YtbjfbecpagdoeaaGreat
set_option linter.unusedVariables false
open Go.RowKit Go.Lib Go.ChangeShapes Go.WideShapes Go.ChangeAt

set_option maxRecDepth 100000 in
set_option maxHeartbeats 2000000 in
theorem diskNone_walk (c : Cx) (w : World) : Calls Tryz.prog 6 #[c.v] w fun e w' => e = .returned (.bool true) ∧ Below w.heap.size w w' := by
  have HDO := Lib.hid fun W => ndo_any c W
  obtain ⟨k, s, t, p, l, e, zs, n⟩ := c
  unfold Cx.v at HDO ⊢
  dsimp only at HDO ⊢
  obtain ⟨wA, hA⟩ : ∃ A, w.alloc (.cells #[.int .i64 k, .string s, .string t, .slice p l e, .int .i64 n] 34) = A := ⟨_, rfl⟩
  have HBA : Hid (Below w.heap.size w wA) := Lib.hid (by rw [← hA]; exact (Below.refl _ _).alloc (Nat.le_refl _) _)
  have HC : Hid (Cxw wA w.heap.size ⟨k, s, t, p, l, e, zs, n⟩) := Lib.hid (by unfold Cxw; rw [← hA]; exact heap_alloc_new _ _)
  obtain ⟨c0, c1, c2, c3, c4⟩ := HC.out.cells
  dsimp only at c0 c1 c2 c3 c4
  have HL := Lib.hid fun W => dlives_any W
  have kk : (decide (1 ≤ k) = true → decide (k ≤ 7) = true → nilE k = 1) := fun a b => by
    unfold nilE; rw [if_pos ⟨of_decide_eq_true a, of_decide_eq_true b⟩]
  have KK := Lib.hid kk
  clear kk
  generalize nilE k = E at *
  by_cases h1 : 1 ≤ k
  · by_cases h2 : k ≤ 7
    · obtain rfl : E = 1 := KK.out (decide_eq_true h1) (decide_eq_true h2)
      have d1 : decide (k ≥ 1) = true := decide_eq_true h1
      have d2 : decide (k ≤ 7) = true := decide_eq_true h2
      go_enter Tryz.func6, Tryz.ntmps6
      go_wp2_with (first
        | (go_at_call 9; refine (HDO.out _).mono ?_; rintro e w2 ⟨rfl, hb2⟩; have HB2 := Lib.hid (below_step HBA.out hb2); have kc := (HC.out.later hb2).cells; dsimp only at kc; clear c0 c1 c2 c3 c4; obtain ⟨c0, c1, c2, c3, c4⟩ := kc; clear hb2)
        | (go_at_call 20; refine (dread_nil _ _ _ _).mono ?_; rintro e w3 ⟨rfl, rfl⟩)
        | (go_at_call 19; refine (dsize_nil _ _).mono ?_; rintro e w3 ⟨rfl, rfl⟩)
        | (go_at_call 25; refine (dnames_nil _).mono ?_; rintro e w3 ⟨rfl, rfl⟩)
        | (go_at_call 22; refine (dfree_nil _).mono ?_; rintro e w3 ⟨rfl, rfl⟩)
        | (go_at_call 26; refine (dcalls_nil _).mono ?_; rintro e w3 ⟨rfl, rfl⟩)
        | (go_at_call 23; refine (dimage_nil _).mono ?_; rintro e w3 ⟨rfl, rfl⟩)
        | (go_at_call 12; refine (HL.out _).mono ?_; rintro e w4 ⟨rfl, hb4⟩; have HB4 := Lib.hid (below_step HB2.out hb4); clear hb4))
      go_ret
      exact ⟨rfl, HB4.out⟩
    · have d1 : decide (k ≥ 1) = true := decide_eq_true h1
      have d2 : decide (k ≤ 7) = false := decide_eq_false h2
      go_enter Tryz.func6, Tryz.ntmps6
      go_wp2_with (first
        | (go_at_call 9; refine (HDO.out _).mono ?_; rintro e w2 ⟨rfl, hb2⟩; have HB2 := Lib.hid (below_step HBA.out hb2); have kc := (HC.out.later hb2).cells; dsimp only at kc; clear c0 c1 c2 c3 c4; obtain ⟨c0, c1, c2, c3, c4⟩ := kc; clear hb2)
        | (go_at_call 20; refine (dread_nil _ _ _ _).mono ?_; rintro e w3 ⟨rfl, rfl⟩)
        | (go_at_call 19; refine (dsize_nil _ _).mono ?_; rintro e w3 ⟨rfl, rfl⟩)
        | (go_at_call 25; refine (dnames_nil _).mono ?_; rintro e w3 ⟨rfl, rfl⟩)
        | (go_at_call 22; refine (dfree_nil _).mono ?_; rintro e w3 ⟨rfl, rfl⟩)
        | (go_at_call 26; refine (dcalls_nil _).mono ?_; rintro e w3 ⟨rfl, rfl⟩)
        | (go_at_call 23; refine (dimage_nil _).mono ?_; rintro e w3 ⟨rfl, rfl⟩)
        | (go_at_call 12; refine (HL.out _).mono ?_; rintro e w4 ⟨rfl, hb4⟩; have HB4 := Lib.hid (below_step HB2.out hb4); clear hb4))
      go_ret
      exact ⟨rfl, HB4.out⟩
  · have d1 : decide (k ≥ 1) = false := decide_eq_false h1
    have d1' : decide (1 ≤ k) = false := decide_eq_false h1
    go_enter Tryz.func6, Tryz.ntmps6
    go_wp2_with (first
      | (go_at_call 9; refine (HDO.out _).mono ?_; rintro e w2 ⟨rfl, hb2⟩; have HB2 := Lib.hid (below_step HBA.out hb2); have kc := (HC.out.later hb2).cells; dsimp only at kc; clear c0 c1 c2 c3 c4; obtain ⟨c0, c1, c2, c3, c4⟩ := kc; clear hb2)
      | (go_at_call 20; refine (dread_nil _ _ _ _).mono ?_; rintro e w3 ⟨rfl, rfl⟩)
      | (go_at_call 19; refine (dsize_nil _ _).mono ?_; rintro e w3 ⟨rfl, rfl⟩)
      | (go_at_call 25; refine (dnames_nil _).mono ?_; rintro e w3 ⟨rfl, rfl⟩)
      | (go_at_call 22; refine (dfree_nil _).mono ?_; rintro e w3 ⟨rfl, rfl⟩)
      | (go_at_call 26; refine (dcalls_nil _).mono ?_; rintro e w3 ⟨rfl, rfl⟩)
      | (go_at_call 23; refine (dimage_nil _).mono ?_; rintro e w3 ⟨rfl, rfl⟩)
      | (go_at_call 12; refine (HL.out _).mono ?_; rintro e w4 ⟨rfl, hb4⟩; have HB4 := Lib.hid (below_step HB2.out hb4); clear hb4))
    go_ret
    exact ⟨rfl, HB4.out⟩

set_option maxRecDepth 100000 in
theorem diskNone_contract (H : Type) (enc : TypeId × Value → H) (W : World) (base : Nat) (args : Array Value) (ds gs : List (DataW H)) (before : List MemPlace)
    (hval : ∀ (j : Nat) t v, Tryz.f6.params[j]? = some t → args[j]? = some v → Value.okWide Tryz.prog W .any base t v)
    (hW : DataW.Whole enc Tryz.prog Tryz.f6.params.toList Rows.diskNoneSpec.vars false W args.toList ds gs before) :
    Calls Tryz.prog 6 args W fun e W' => ∃ v, e = .returned v ∧ Rows.diskNoneSpec.post enc Tryz.prog Tryz.f6 false true false false W args v W' := by
  have hW' := hW
  obtain ⟨p, q, hA0, hV, rfl, hfz, hnd⟩ := hW
  have hA : DataW.TrodAll enc Tryz.prog W 0 (fun _ => true) true Tryz.f6.params.toList args.toList ds p := hA0
  rw [Tryz.params6] at hA hval
  obtain ⟨v0, vs0, d0, ds0, p0, q0, hargs, rfl, rfl, t0, r0⟩ := trodAll_cons hA
  obtain ⟨rfl, rfl, rfl⟩ := trodAll_nil r0
  obtain rfl : args = #[v0] := by cases args; simp_all
  obtain ⟨rfl, rfl⟩ := trodVars_none hV
  obtain ⟨c0, rfl⟩ := open_call0 (hval 0 34 v0 rfl rfl) t0
  refine (diskNone_walk  c0 W ).mono fun e W' ⟨he, hb⟩ => ?_
  subst he
  exact ⟨_, rfl, law_post laidOut (by kernel_rfl) rfl Tryz.underlying4 rfl hW' rfl rfl rfl hb⟩

set_option maxRecDepth 100000 in
theorem diskNone_lifted (os : Os) (started : os.Started) (H : Type) (enc : TypeId × Value → H) :
    ReturnsInHanded {} Tryz.checked os 6 .any (Rows.diskNoneSpec.pre6 enc Tryz.prog Tryz.f6 Rows.diskNoneRow.domain false) (Rows.diskNoneSpec.post enc Tryz.prog Tryz.f6 false true false false) := by
  refine returnsInHanded_of_change (C := Tryz.checked) own started (by kernel_rfl) Tryz.func6
    (ChangeSpec.witness6 (enc := enc) (C := Tryz.checked) false ⟨#[], #[.agg #[.int .i64 0, .string ⟨#[]⟩, .string ⟨#[]⟩, .slice none 0 0, .int .i64 0]], []⟩ 8 (by kernel_rfl) (by kernel_rfl) (by kernel_rfl) (by kernel_rfl)) ?_
  intro W base args ds gs before hval hW _ _
  exact diskNone_contract H enc W base args ds gs before hval hW

theorem diskNone_holds : Rows.DiskNoneSaid :=
  OpenClaim.holds_of_wide 6 Tryz.f6 rfl rfl rfl rfl rfl rfl rfl ⟨rfl, rfl, rfl, rfl, rfl⟩ rfl rfl rfl rfl rfl (by kernel_rfl) Tryz.func6 (by kernel_rfl)
    (of_decide_eq_true (by kernel_rfl)) (by unfold Func.isWrapper; first | (rw [if_pos (by decide +kernel)]; kernel_rfl) | (rw [if_neg (by decide +kernel)]; exact ⟨rfl, rfl⟩))
    (fun os started H enc _ => diskNone_lifted os started H enc)
end Go.Proofs.YtbjfbecpagdoeaaGreat

namespace Go.Proofs.YtbjfbecpagdoeaaGreat
set_option linter.unusedVariables false
open Go.RowKit Go.Lib Go.Maps

set_option maxRecDepth 100000 in
set_option maxHeartbeats 2000000 in
theorem ddo_any {w : World} {D M m : Nat} {d : Dk} (h : Dw w D M d) (ho : d.Ok m) (hm : m ≤ 1048573) (c : Cx) (hc : c.Fit w) :
    Calls Tryz.prog 9 #[.pointer (some ⟨D, 0, none⟩), c.v] w fun e w' => e = .returned (.int .i64 (stepP d c.cl).2) ∧ Dw w' D M (stepP d c.cl).1 ∧ Kp D M w w' := by
  have hll := hc.len
  obtain ⟨hcb, hcp, hcl, hck, hcs, hct, hcd, hcn⟩ := hc
  obtain ⟨k, s, t, p, l, e, zs, n⟩ := c
  unfold Cx.cl at hck hcs hct hcd hcn ⊢
  unfold Cx.v
  dsimp only at hcb hcp hcl hck hcs hct hcd hcn hll ⊢
  obtain ⟨wA, hA⟩ : ∃ A, w.alloc (.cells #[.int .i64 k, .string s, .string t, .slice p l e, .int .i64 n] 34) = A := ⟨_, rfl⟩
  have HBA : Hid (Below w.heap.size w wA) := Lib.hid (by rw [← hA]; exact (Below.refl _ _).alloc (Nat.le_refl _) _)
  have hx : Cxw wA w.heap.size ⟨k, s, t, p, l, e, zs, n⟩ := by unfold Cxw; rw [← hA]; exact heap_alloc_new _ _
  obtain ⟨c0, c1, c2, c3, c4⟩ := hx.cells
  dsimp only at c0 c1 c2 c3 c4
  have HW := Lib.hid (h.later HBA.out)
  have HB := Lib.hid (hcb.later HBA.out)
  clear hx h hcb
  by_cases h1 : k = 1
  · subst h1
    have HS := Lib.hid (dcreate_any HW.out ho hm s hcs)
    rw [show stepP d ⟨1, s, t, zs, n⟩ = powP d (fun d => createP d s) from rfl]
    generalize powP d (fun d => createP d s) = R at *
    clear ho
    go_enter Tryz.func9, Tryz.ntmps9
    go_wp2_with (go_at_call 15; refine HS.out.mono ?_; rintro e w2 ⟨rfl, hw2, hk2⟩; have HW2 := Lib.hid hw2; have HK2 := Lib.hid hk2; clear hw2 hk2)
    first | go_ret | (refine bodyPost_ret (results_tmp rfl _ _ _) rfl ?_)
    exact ⟨rfl, HW2.out, (Kp.of_below HBA.out).trans HK2.out⟩
  have k1 : (k == 1) = false := by simpa using h1
  by_cases h2 : k = 2
  · subst h2
    have HS := Lib.hid (dappend_any HW.out ho hm s hcs p l e zs HB.out hcp hcl hll)
    rw [show stepP d ⟨2, s, t, zs, n⟩ = powP d (fun d => editP d s (appX d zs)) from rfl]
    generalize powP d (fun d => editP d s (appX d zs)) = R at *
    clear ho
    go_enter Tryz.func9, Tryz.ntmps9
    go_wp2_with (go_at_call 16; refine HS.out.mono ?_; rintro e w2 ⟨rfl, hw2, hk2⟩; have HW2 := Lib.hid hw2; have HK2 := Lib.hid hk2; clear hw2 hk2)
    first | go_ret | (refine bodyPost_ret (results_tmp rfl _ _ _) rfl ?_)
    exact ⟨rfl, HW2.out, (Kp.of_below HBA.out).trans HK2.out⟩
  have k2 : (k == 2) = false := by simpa using h2
  by_cases h3 : k = 3
  · subst h3
    have HS := Lib.hid (dcut_any HW.out ho hm s hcs n hcn)
    rw [show stepP d ⟨3, s, t, zs, n⟩ = powP d (fun d => editP d s (cutX n)) from rfl]
    generalize powP d (fun d => editP d s (cutX n)) = R at *
    clear ho
    go_enter Tryz.func9, Tryz.ntmps9
    go_wp2_with (go_at_call 35; refine HS.out.mono ?_; rintro e w2 ⟨rfl, hw2, hk2⟩; have HW2 := Lib.hid hw2; have HK2 := Lib.hid hk2; clear hw2 hk2)
    first | go_ret | (refine bodyPost_ret (results_tmp rfl _ _ _) rfl ?_)
    exact ⟨rfl, HW2.out, (Kp.of_below HBA.out).trans HK2.out⟩
  have k3 : (k == 3) = false := by simpa using h3
  by_cases h4 : k = 4
  · subst h4
    have HS := Lib.hid (dsync_any HW.out ho hm s hcs)
    rw [show stepP d ⟨4, s, t, zs, n⟩ = powP d (fun d => editP d s synX) from rfl]
    generalize powP d (fun d => editP d s synX) = R at *
    clear ho
    go_enter Tryz.func9, Tryz.ntmps9
    go_wp2_with (go_at_call 17; refine HS.out.mono ?_; rintro e w2 ⟨rfl, hw2, hk2⟩; have HW2 := Lib.hid hw2; have HK2 := Lib.hid hk2; clear hw2 hk2)
    first | go_ret | (refine bodyPost_ret (results_tmp rfl _ _ _) rfl ?_)
    exact ⟨rfl, HW2.out, (Kp.of_below HBA.out).trans HK2.out⟩
  have k4 : (k == 4) = false := by simpa using h4
  by_cases h5 : k = 5
  · subst h5
    have HS := Lib.hid (drename_any HW.out ho hm s t hcs hct)
    rw [show stepP d ⟨5, s, t, zs, n⟩ = powP d (fun d => renP d ⟨2, s, t, 0⟩) from rfl]
    generalize powP d (fun d => renP d ⟨2, s, t, 0⟩) = R at *
    clear ho
    go_enter Tryz.func9, Tryz.ntmps9
    go_wp2_with (go_at_call 36; refine HS.out.mono ?_; rintro e w2 ⟨rfl, hw2, hk2⟩; have HW2 := Lib.hid hw2; have HK2 := Lib.hid hk2; clear hw2 hk2)
    first | go_ret | (refine bodyPost_ret (results_tmp rfl _ _ _) rfl ?_)
    exact ⟨rfl, HW2.out, (Kp.of_below HBA.out).trans HK2.out⟩
  have k5 : (k == 5) = false := by simpa using h5
  by_cases h6 : k = 6
  · subst h6
    have HS := Lib.hid (dremove_any HW.out ho hm s hcs)
    rw [show stepP d ⟨6, s, t, zs, n⟩ = powP d (fun d => renP d ⟨3, s, ⟨#[]⟩, 0⟩) from rfl]
    generalize powP d (fun d => renP d ⟨3, s, ⟨#[]⟩, 0⟩) = R at *
    clear ho
    go_enter Tryz.func9, Tryz.ntmps9
    go_wp2_with (go_at_call 37; refine HS.out.mono ?_; rintro e w2 ⟨rfl, hw2, hk2⟩; have HW2 := Lib.hid hw2; have HK2 := Lib.hid hk2; clear hw2 hk2)
    first | go_ret | (refine bodyPost_ret (results_tmp rfl _ _ _) rfl ?_)
    exact ⟨rfl, HW2.out, (Kp.of_below HBA.out).trans HK2.out⟩
  have k6 : (k == 6) = false := by simpa using h6
  by_cases h7 : k = 7
  · subst h7
    have HS := Lib.hid (dsyncdir_any HW.out ho hm)
    rw [show stepP d ⟨7, s, t, zs, n⟩ = powP d (fun d => syncDirP d) from rfl]
    generalize powP d (fun d => syncDirP d) = R at *
    clear ho
    go_enter Tryz.func9, Tryz.ntmps9
    go_wp2_with (go_at_call 18; refine HS.out.mono ?_; rintro e w2 ⟨rfl, hw2, hk2⟩; have HW2 := Lib.hid hw2; have HK2 := Lib.hid hk2; clear hw2 hk2)
    first | go_ret | (refine bodyPost_ret (results_tmp rfl _ _ _) rfl ?_)
    exact ⟨rfl, HW2.out, (Kp.of_below HBA.out).trans HK2.out⟩
  have k7 : (k == 7) = false := by simpa using h7
  by_cases h8 : k = 8
  · subst h8
    obtain ⟨x, fu, g, hx⟩ := HW.out
    have HS := Lib.hid (dfuse_any hx n hcn)
    rw [show stepP d ⟨8, s, t, zs, n⟩ = ({ d with fuse := normF n }, 0) from rfl]
    clear ho hx
    go_enter Tryz.func9, Tryz.ntmps9
    go_wp2_with (go_at_call 38; refine HS.out.mono ?_; rintro e w2 ⟨rfl, hw2, hk2⟩; have HW2 := Lib.hid hw2; have HK2 := Lib.hid hk2; clear hw2 hk2)
    first | go_ret | (refine bodyPost_ret (results_tmp rfl _ _ _) rfl ?_)
    exact ⟨rfl, HW2.out, (Kp.of_below HBA.out).trans HK2.out⟩
  have k8 : (k == 8) = false := by simpa using h8
  by_cases h9 : k = 9
  · subst h9
    obtain ⟨x, fu, g, hx⟩ := HW.out
    have HS := Lib.hid (dcrash_any hx ho (by omega) p l e zs HB.out hcp hcl (by omega))
    rw [show stepP d ⟨9, s, t, zs, n⟩ = (crashD d zs, 0) from rfl]
    clear ho hx
    go_enter Tryz.func9, Tryz.ntmps9
    go_wp2_with (go_at_call 14; refine HS.out.mono ?_; rintro e w2 ⟨rfl, hw2, hk2⟩; have HW2 := Lib.hid hw2; have HK2 := Lib.hid hk2; clear hw2 hk2)
    first | go_ret | (refine bodyPost_ret (results_tmp rfl _ _ _) rfl ?_)
    exact ⟨rfl, HW2.out, (Kp.of_below HBA.out).trans HK2.out⟩
  have k9 : (k == 9) = false := by simpa using h9
  have HE : Hid (stepP d ⟨k, s, t, zs, n⟩ = (d, 0)) := Lib.hid (by
    unfold stepP
    dsimp only
    rw [if_neg (by omega), if_neg h8, if_neg h9])
  clear h1 h2 h3 h4 h5 h6 h7 h8 h9 ho
  go_enter Tryz.func9, Tryz.ntmps9
  go_wp2
  go_ret
  rw [HE.out]
  exact ⟨rfl, HW.out, Kp.of_below HBA.out⟩
end Go.Proofs.YtbjfbecpagdoeaaGreat

namespace Go.Proofs.YtbjfbecpagdoeaaGreat
set_option linter.unusedVariables false
open Go.RowKit Go.Lib

theorem crash_used {m : Nat} {d : Dk} (ho : d.Ok m) (ch : List Int) : usedK (crashD d ch).K ≤ usedK d.K ∧ (crashD d ch).K.length ≤ d.K.length := by
  have hs : ∀ i ∈ idsP (crashQ d.F (ch.headD 0).toNat), i ∈ idK (crK d.K ch.tail) := fun i hi => by rw [idK_cr, ho.ids]; exact ids_crash _ _ i hi
  have hr : irises (idK (crK d.K ch.tail)) := by rw [idK_cr]; exact ho.rises
  have e : (crashD d ch).K = (crK d.K ch.tail).filter fun k => decide (k.id ∈ idsP (crashQ d.F (ch.headD 0).toNat)) := tidy_filter hr (idsP_rises _) hs
  rw [e]
  refine ⟨Int.le_trans (usedK_filter _ _) (usedK_cr _ _), Nat.le_trans (List.length_filter_le _ _) ?_⟩
  have h1 := congrArg List.length (idK_cr d.K ch.tail)
  simp only [idK, List.length_map] at h1
  omega
theorem crK_still {K : List Kt} (h : ∀ k ∈ K, k.x.l = []) (ch : List Int) : crK K ch = K := by
  induction K generalizing ch with
  | nil => rfl
  | cons k K ih =>
    obtain ⟨i, b, l⟩ := k
    have hl : l = [] := h _ List.mem_cons_self
    subst hl
    rw [crK, ih (fun k hk => h k (List.mem_cons_of_mem _ hk))]
    have e : crashP ⟨b, []⟩ ch = ⟨b, []⟩ := by unfold crashP; rw [surP_nil]
    dsimp only
    rw [e]
theorem crash_twice {m : Nat} {d : Dk} (ho : d.Ok m) (ch ch2 : List Int) : crashD (crashD d ch) ch2 = crashD d ch := by
  have h1 := crash_ok ho ch
  have hF : ∀ n, crashQ (crashD d ch).F n = (crashD d ch).F := fun n => by
    show (⟨behP (crashD d ch).F n, []⟩ : Fd) = _
    have e : (crashD d ch).F = ⟨behP d.F (ch.headD 0).toNat, []⟩ := rfl
    rw [e, behP_none _ n (beh_both _ _).1]
  have hK : ∀ c, crK (crashD d ch).K c = (crashD d ch).K := fun c => by
    refine crK_still (fun k hk => ?_) c
    obtain ⟨i, hi, rfl⟩ := List.mem_map.1 (show k ∈ tidyK (crK d.K ch.tail) _ from hk)
    dsimp only
    by_cases hm : i ∈ idK (crK d.K ch.tail)
    · obtain ⟨k', _, c', e⟩ := mem_cr (atK_mem hm)
      have := congrArg Kt.x e
      dsimp only at this
      rw [this]
      rfl
    · unfold atK
      rw [getK_none hm]; rfl
  have hT : tidyK (crashD d ch).K (idsP (crashD d ch).F) = (crashD d ch).K := by
    rw [← h1.ids]; exact tidy_self h1.rises
  unfold crashD at *
  dsimp only at *
  rw [hF, hK, hT]
theorem leftP_mono {l u v : Int} (h : v ≤ u) : leftP l u ≤ leftP l v := by unfold leftP; omega

/-- calls one behind another -/
def stepsP (d : Dk) (L : List Cx) : Dk := L.foldl (fun d c => (stepP d c.cl).1) d
theorem steps_snoc (d : Dk) (L : List Cx) (c : Cx) : stepsP d (L ++ [c]) = (stepP (stepsP d L) c.cl).1 := by
  unfold stepsP
  rw [List.foldl_append]; rfl
theorem steps_take {d : Dk} {L : List Cx} {j : Nat} (h : j < L.length) : stepsP d (L.take (j + 1)) = (stepP (stepsP d (L.take j)) (L.getD j cx0).cl).1 := by
  rw [List.take_succ_eq_append_getElem h, steps_snoc, List.getD_eq_getElem?_getD, List.getElem?_eq_getElem h]; rfl
theorem steps_ok {W : World} {d : Dk} {m : Nat} (ho : d.Ok m) {L : List Cx} (hf : ∀ c ∈ L, c.Fit W) (hm : m + 2 * L.length ≤ 1048574) : ∀ j, j ≤ L.length → (stepsP d (L.take j)).Ok (m + 2 * j)
  | 0, _ => by rw [List.take_zero]; exact ho
  | j + 1, hj => by
    have h1 := steps_ok ho hf hm j (by omega)
    rw [steps_take (by omega)]
    have hmem : L.getD j cx0 ∈ L := by rw [List.getD_eq_getElem?_getD, List.getElem?_eq_getElem (by omega)]; exact List.getElem_mem _
    exact (step_ok h1 (by omega) (hf _ hmem).ok).mono (by omega)
end Go.Proofs.YtbjfbecpagdoeaaGreat

namespace Go.Proofs.YtbjfbecpagdoeaaGreat
set_option linter.unusedVariables false
open Go.RowKit Go.Lib Go.ChangeShapes Go.WideShapes Go.ChangeAt

theorem imageP_length (d : Dk) : (imageP d).length = d.F.l.length := by unfold imageP; simp
theorem fit_mem {W : World} {L : List Cx} (hf : ∀ c ∈ L, c.Fit W) {k : Nat} (hk : k < L.length) : (L.getD k cx0).Fit W := by
  rw [List.getD_eq_getElem?_getD, List.getElem?_eq_getElem hk]; exact hf _ (List.getElem_mem _)

set_option maxRecDepth 100000 in
set_option maxHeartbeats 2000000 in
theorem diskRoom_walk (lb lf : Int) (a : Option Addr) (n cap : Nat) (L : List Cx) (p : Option Addr) (l c : Nat) (zs : List Int) (w : World) (hlb : InI lb) (hlf : InI lf) (hg : Gs encX w a n L) (hf : ∀ c ∈ L, c.Fit w) (hb : Bs w p l zs) (hp : p = none → c = 0) (hlc : l ≤ c) (hc : c ≤ 1048576) (hz : n * 6 ≤ 1048576) :
    Calls Tryz.prog 5 #[.agg #[.int .i64 lb, .int .i64 lf], .slice a n cap, .slice p l c] w fun e w' => e = .returned (.bool true) ∧ Below w.heap.size w w' := by
  obtain ⟨wA, hA⟩ : ∃ A, w.alloc (.cells #[.int .i64 lb, .int .i64 lf] 23) = A := ⟨_, rfl⟩
  have HBA : Hid (Below w.heap.size w wA) := Lib.hid (by rw [← hA]; exact (Below.refl _ _).alloc (Nat.le_refl _) _)
  have l0 : wA.cell? ⟨w.heap.size, 0, none⟩ = some (.int .i64 lb) := by rw [← hA, cell_of_row _ _ _ _ _ _ (heap_alloc_new _ _)]; rfl
  have l1 : wA.cell? ⟨w.heap.size, 1, none⟩ = some (.int .i64 lf) := by rw [← hA, cell_of_row _ _ _ _ _ _ (heap_alloc_new _ _)]; rfl
  have HG := Lib.hid hg
  have HL := Lib.hid hg.1
  have HF := Lib.hid hf
  have HB0 := Lib.hid hb
  have HNEW := Lib.hid (dnew_any lb lf hlb hlf wA)
  have HDO := Lib.hid fun W D M m d => ddo_any (w := W) (D := D) (M := M) (m := m) (d := d)
  have HOK : Hid (∀ j, j ≤ n → (stepsP (newD lb lf) (L.take j)).Ok (2 * j)) := Lib.hid fun j hj => by
    have := steps_ok (m := 0) (new_ok hlb hlf) hf (by rw [hg.1]; omega) j (by rw [hg.1]; exact hj)
    rwa [Nat.zero_add] at this
  clear hg hf hb
  go_enter Tryz.func5, Tryz.ntmps5
  go_wp2_with (go_at_call 13; refine HNEW.out.mono ?_; rintro e w1 ⟨D, M, rfl, hw1, hD, hM, hb1⟩; have HB1 := Lib.hid (below_step HBA.out hb1); have HDM : Hid (w.heap.size ≤ D ∧ w.heap.size ≤ M) := Lib.hid ⟨Nat.le_trans HBA.out.size hD, Nat.le_trans HBA.out.size hM⟩; have HW1 := Lib.hid hw1; clear hw1 hD hM hb1)
  go_loopw [8] (fun i wr => ∃ k : Nat, k ≤ n ∧ i = .int .i64 (k : Int) ∧ Hid (Dw wr D M (stepsP (newD lb lf) (L.take k))) ∧ Hid (Below w.heap.size w wr)) (fun i _ => n - (intOf i).toNat)
  case atStart => exact ⟨0, Nat.zero_le _, rfl, HW1, HB1⟩
  case round =>
    obtain ⟨k, hk, rfl, HW, HB⟩ := hrel
    by_cases hlt : k < n
    · have hkn : (k : Int) < (n : Int) := by omega
      have hk0 : (0 : Int) ≤ (k : Int) := by omega
      have HST : Hid ((stepP (stepsP (newD lb lf) (L.take k)) (L.getD k cx0).cl).1 = stepsP (newD lb lf) (L.take (k + 1))) := Lib.hid (steps_take (by rw [HL.out]; exact hlt)).symm
      have HDK := Lib.hid (HDO.out wr D M (2 * k) _ HW.out (HOK.out k hk) (by omega) (L.getD k cx0) ((fit_mem HF.out (by rw [HL.out]; exact hlt)).later HB.out))
      obtain ⟨b, off, rfl, c0, c1, c2, c3, c4⟩ := (HG.out.later HB.out).cx k hlt
      generalize stepP (stepsP (newD lb lf) (L.take k)) (L.getD k cx0).cl = R at *
      generalize L.getD k cx0 = y at *
      obtain ⟨y0, y1, y2, y3, y4, y5, y6, y7⟩ := y
      dsimp only at c0 c1 c2 c3 c4
      unfold Cx.v at HDK
      dsimp only at HDK
      go_wp2_with (go_at_call 9; refine HDK.out.mono ?_; rintro e w2 ⟨rfl, hw2, hk2⟩; have HW2 := Lib.hid hw2; have HB2 := Lib.hid (hk2.onto HB.out HB.out.size HDM.out.1 HDM.out.2); clear hw2 hk2 c0 c1 c2 c3 c4)
      refine ⟨?_, by simp [intOf] <;> omega⟩
      exact ⟨k + 1, by omega, by go_num, Lib.hid (by rw [← HST.out]; exact HW2.out), HB2⟩
    · obtain rfl : k = n := by omega
      have HO := Lib.hid (HOK.out k (Nat.le_refl _))
      generalize stepsP (newD lb lf) (L.take k) = d at *
      have HO2 := Lib.hid (crash_ok HO.out zs)
      have HTW := Lib.hid (crash_twice HO.out zs zs)
      have HU := Lib.hid (crash_used HO.out zs)
      have HLV := Lib.hid fun W => dlives_any W
      have HLM : Hid ((crashD d zs).F.l.length ≤ 2097152) := Lib.hid (by have := HO2.out.len; omega)
      clear l0 l1 hA
      obtain ⟨xf, fuf, gf, hxf⟩ := HW.out
      have HF1 := Lib.hid (dfree_any hxf HO.out (by omega))
      clear hxf
      go_wp2_with (first
        | (go_at_call 22; refine HF1.out.mono ?_; rintro e w2 ⟨rfl, hb2⟩
           have HB2 := Lib.hid (below_step HB.out hb2)
           have HW2 := Lib.hid (HW.out.later hb2)
           obtain ⟨x2, fu2, g2, hx2⟩ := HW2.out
           have HC1 := Lib.hid (dcrash_any hx2 HO.out (by omega) p l c zs (HB0.out.later HB2.out) hp hlc (by omega))
           clear hx2 hb2 HF1)
        | (go_at_call 14; refine HC1.out.mono ?_; rintro e w3 ⟨rfl, hw3, hk3⟩
           have HW3 := Lib.hid hw3
           have HB3 := Lib.hid (hk3.onto HB2.out HB2.out.size HDM.out.1 HDM.out.2)
           obtain ⟨x3, fu3, g3, hx3⟩ := HW3.out
           have HF3 := Lib.hid (dfree_any hx3 HO2.out (by omega))
           clear hx3 hw3 hk3 HC1)
        | (go_at_call 22; refine HF3.out.mono ?_; rintro e w4 ⟨rfl, hb4⟩
           have HB4 := Lib.hid (below_step HB3.out hb4)
           have HW4 := Lib.hid (HW3.out.later hb4)
           obtain ⟨x4, fu4, g4, hx4⟩ := HW4.out
           have HI4 := Lib.hid (dimage_any hx4 HO2.out (by omega))
           clear hx4 hb4 HF3)
        | (go_at_call 23; refine HI4.out.mono ?_; rintro e w5 ⟨p5, k5, c5, L5, rfl, hg5, he5, hob5, _, _, hb5⟩
           have HB5 := Lib.hid (below_step HB4.out hb5)
           have HW5 := Lib.hid (HW4.out.later hb5)
           have HG5 := Lib.hid hg5
           have HE5 := Lib.hid he5
           have HS5 : Hid (∀ y ∈ L5, Bs w5 y.p y.n y.zs) := Lib.hid fun y hy => by
             obtain ⟨p', cap', hv, _, _, hbs, _⟩ := (hob5 y hy).open
             simp only [Value.slice.injEq] at hv
             obtain ⟨e1, e2, e3⟩ := hv
             rw [e1, e2]; exact hbs
           obtain ⟨x5, fu5, g5, hx5⟩ := HW5.out
           have HC5 := Lib.hid (dcrash_any hx5 HO2.out (by omega) p l c zs (HB0.out.later HB5.out) hp hlc (by omega))
           rw [HTW.out] at HC5
           have HNX := Lib.hid hx5.nix
           clear hg5 he5 hob5 hb5 hx5 HI4)
        | (go_at_call 14; refine HC5.out.mono ?_; rintro e w6 ⟨rfl, hw6, hk6⟩
           have HW6 := Lib.hid hw6
           have HB6 := Lib.hid (hk6.onto HB5.out HB5.out.size HDM.out.1 HDM.out.2)
           have HG6 := Lib.hid (HG5.out.kp namedF hk6 HNX.out.1 HNX.out.2)
           have HS6 : Hid (∀ y ∈ L5, Bs w6 y.p y.n y.zs) := Lib.hid fun y hy => (HS5.out y hy).kp hk6 HNX.out.1 HNX.out.2
           obtain ⟨x6, fu6, g6, hx6⟩ := HW6.out
           have HI6 := Lib.hid (dimage_any hx6 HO2.out (by omega))
           have q1 : leftP d.lb (usedK d.K) ≤ leftP (crashD d zs).lb (usedK (crashD d zs).K) := leftP_mono (l := d.lb) HU.out.1
           have q2 : leftP d.lf (d.K.length : Int) ≤ leftP (crashD d zs).lf ((crashD d zs).K.length : Int) := leftP_mono (l := d.lf) (by have := HU.out.2; omega)
           clear hx6 hw6 hk6 HC5)
        | (go_at_call 23; refine HI6.out.mono ?_; rintro e w7 ⟨p7, k7, c7, L7, rfl, hg7, he7, hob7, _, _, hb7⟩
           have HB7 := Lib.hid (below_step HB6.out hb7)
           have HFI := Lib.hid (rfiles_any p7 p5 k7 c7 k5 c5 L7 L5 w7 hg7 (HG6.out.later hb7) (fun y hy => by
             obtain ⟨p', cap', hv, _, _, hbs, _⟩ := (hob7 y hy).open
             simp only [Value.slice.injEq] at hv
             obtain ⟨e1, e2, e3⟩ := hv
             rw [e1, e2]; exact hbs) (fun y hy => (HS6.out y hy).later hb7) (by rw [he7, HE5.out]) (by
             have h1 := hg7.1
             have h2 := congrArg List.length he7
             rw [List.length_map, imageP_length] at h2
             have := HLM.out
             omega))
           clear hg7 he7 hob7 hb7 HI6)
        | (go_at_call 24; refine HFI.out.mono ?_; rintro e w8 ⟨rfl, hb8⟩
           have HB8 := Lib.hid (below_step HB7.out hb8)
           clear hb8 HFI)
        | (go_at_call 12; refine (HLV.out _).mono ?_; rintro e w9 ⟨rfl, hb9⟩
           have HB9 := Lib.hid (below_step HB8.out hb9)
           clear hb9))
      go_ret
      exact ⟨rfl, HB9.out⟩

set_option maxRecDepth 100000 in
theorem diskRoom_contract (H : Type) (enc : TypeId × Value → H) (W : World) (base : Nat) (args : Array Value) (ds gs : List (DataW H)) (before : List MemPlace)
    (hval : ∀ (j : Nat) t v, Tryz.f5.params[j]? = some t → args[j]? = some v → Value.okWide Tryz.prog W .any base t v)
    (hW : DataW.Whole enc Tryz.prog Tryz.f5.params.toList Rows.diskRoomSpec.vars false W args.toList ds gs before) (hk : Rows.uptoSmall H (ds ++ gs) = true) :
    Calls Tryz.prog 5 args W fun e W' => ∃ v, e = .returned v ∧ Rows.diskRoomSpec.post enc Tryz.prog Tryz.f5 false true false false W args v W' := by
  have hW' := hW
  obtain ⟨p, q, hA0, hV, rfl, hfz, hnd⟩ := hW
  have hA : DataW.TrodAll enc Tryz.prog W 0 (fun _ => true) true Tryz.f5.params.toList args.toList ds p := hA0
  rw [Tryz.params5] at hA hval
  obtain ⟨v0, vs0, d0, ds0, p0, q0, hargs, rfl, rfl, t0, r0⟩ := trodAll_cons hA
  obtain ⟨v1, vs1, d1, ds1, p1, q1, rfl, rfl, rfl, t1, r1⟩ := trodAll_cons r0
  obtain ⟨v2, vs2, d2, ds2, p2, q2, rfl, rfl, rfl, t2, r2⟩ := trodAll_cons r1
  obtain ⟨rfl, rfl, rfl⟩ := trodAll_nil r2
  obtain rfl : args = #[v0, v1, v2] := by cases args; simp_all
  obtain ⟨rfl, rfl⟩ := trodVars_none hV
  have hk0 := of_decide_eq_true hk
  simp only [Rows.uptoBulkAll, List.append_nil] at hk0
  obtain ⟨lb0, lf0, rfl, hlb0, hlf0⟩ := open_lim (hval 0 23 v0 rfl rfl) t0
  obtain ⟨a1, len1, cap1, rfl⟩ := okWide_slice Tryz.underlying25 (hval 1 25 v1 rfl rfl)
  obtain ⟨fuel1, t1⟩ := t1
  obtain ⟨L1, hg1, hf1, hz1⟩ := open_calls (by show Rows.uptoBulk d1 ≤ 1048576; omega) t1
  have hz1' : len1 * 6 + 1 ≤ Rows.uptoBulk d1 := hz1
  obtain ⟨a2, len2, cap2, rfl⟩ := okWide_slice Tryz.underlying32 (hval 2 32 v2 rfl rfl)
  obtain ⟨fuel2, t2⟩ := t2
  obtain ⟨hlc2, hcm2, hpc2, hb2, zs2, hbs2⟩ := open_bs Tryz.underlying32 Tryz.underlying5 (by kernel_rfl) t2
  have hk' := of_decide_eq_true hk
  simp only [Rows.uptoBulkAll, List.append_nil, hb2] at hk'
  refine (diskRoom_walk  lb0 lf0 a1 len1 cap1 L1 a2 len2 cap2 zs2 W hlb0 hlf0 hg1 hf1 hbs2 hpc2 hlc2 (by omega) (by omega)).mono fun e W' ⟨he, hb⟩ => ?_
  subst he
  exact ⟨_, rfl, law_post laidOut (by kernel_rfl) rfl Tryz.underlying4 rfl hW' rfl rfl rfl hb⟩

set_option maxRecDepth 100000 in
theorem diskRoom_lifted (os : Os) (started : os.Started) (H : Type) (enc : TypeId × Value → H) (F : Stop.Interp) :
    ReturnsInHanded {} Tryz.checked os 5 .any ((Rows.OpenSpec.upto Rows.diskRoomSpec).pre6 enc Tryz.prog Tryz.f5 Rows.diskRoomUptoRow.domain false) (((Rows.OpenSpec.upto Rows.diskRoomSpec).at F).post enc Tryz.prog Tryz.f5 false true false false) := by
  refine returnsInHanded_of_cond (C := Tryz.checked) (s := Rows.OpenSpec.upto Rows.diskRoomSpec) (k := Rows.uptoSmall) rfl own started (by kernel_rfl) Tryz.func5
    (OpenSpec.witness (enc := enc) (C := Tryz.checked) (s := Rows.OpenSpec.upto Rows.diskRoomSpec) (k := Rows.uptoSmall) rfl false ⟨#[], #[.agg #[.int .i64 0, .int .i64 0], .slice none 0 0, .slice none 0 0], []⟩ 8 (by kernel_rfl) (by kernel_rfl) (by kernel_rfl)
      (x := ([.agg [.lit (.int .i64 0), .lit (.int .i64 0)], .nil, .nil], [], [])) (by kernel_rfl) rfl (by kernel_rfl)) ?_
  intro W base args ds gs before hval hW _ hk _
  exact diskRoom_contract H enc W base args ds gs before hval hW hk

theorem diskRoomUpto_holds : Rows.DiskRoomUptoSaid :=
  OpenClaim.holds_of_cond 5 Tryz.f5 rfl rfl rfl rfl rfl rfl rfl ⟨rfl, rfl, rfl, rfl, rfl⟩ rfl rfl rfl rfl rfl (by kernel_rfl) Tryz.func5 (by kernel_rfl)
    (of_decide_eq_true (by kernel_rfl)) (by unfold Func.isWrapper; first | (rw [if_pos (by decide +kernel)]; kernel_rfl) | (rw [if_neg (by decide +kernel)]; exact ⟨rfl, rfl⟩))
    (fun os started H enc _ F => diskRoom_lifted os started H enc F)
end Go.Proofs.YtbjfbecpagdoeaaGreat

namespace Go.Proofs.YtbjfbecpagdoeaaGreat
set_option linter.unusedVariables false
open Go.RowKit Go.Lib

def sit : ByteArray := ⟨#[105, 116]⟩
/-- one name of it, and only one -/
def Pf (t : ByteArray) (id : Int) (f : ByteArray → Option Int) : Prop := f t = some id ∧ ∀ s, f s = some id → s = t
theorem Pf.chg {t : ByteArray} {id : Int} {f : ByteArray → Option Int} (h : Pf t id f) {c : Cg} (ha : c.a ≠ t) (hb : c.b ≠ t) (hk : c.k = 1 → c.id ≠ id) : Pf t id (chgF f c) := by
  obtain ⟨h1, h2⟩ := h
  unfold chgF
  by_cases k1 : c.k = 1
  · refine ⟨?_, fun s hs => ?_⟩
    · dsimp only; rw [if_pos k1, if_neg (fun e => ha e.symm)]; exact h1
    · dsimp only at hs
      rw [if_pos k1] at hs
      split at hs
      · exact absurd (Option.some.inj hs) (hk k1)
      · exact h2 s hs
  · cases hf : f c.a with
    | none =>
      refine ⟨?_, fun s hs => ?_⟩
      · dsimp only; rw [if_neg k1]; exact h1
      · dsimp only at hs; rw [if_neg k1] at hs; exact h2 s hs
    | some i =>
      have hi : i ≠ id := fun e => ha (h2 _ (by rw [hf, e]))
      refine ⟨?_, fun s hs => ?_⟩
      · dsimp only; rw [if_neg k1]
        split
        · rw [if_neg (fun e => hb e.symm), if_neg (fun e => ha e.symm)]; exact h1
        · split
          · rw [if_neg (fun e => ha e.symm)]; exact h1
          · exact h1
      · dsimp only at hs; rw [if_neg k1] at hs
        split at hs
        · split at hs
          · exact absurd (Option.some.inj hs) hi
          · split at hs
            · cases hs
            · exact h2 s hs
        · split at hs
          · split at hs
            · cases hs
            · exact h2 s hs
          · exact h2 s hs
theorem Pf.fold {t : ByteArray} {id : Int} (p : List Cg) : ∀ {f : ByteArray → Option Int}, Pf t id f → (∀ c ∈ p, c.a ≠ t ∧ c.b ≠ t ∧ (c.k = 1 → c.id ≠ id)) → Pf t id (p.foldl chgF f) := by
  induction p with
  | nil => exact fun h _ => h
  | cons c p ih =>
    intro f h hp
    obtain ⟨h1, h2, h3⟩ := hp c List.mem_cons_self
    exact ih (h.chg h1 h2 h3) fun c' hc => hp c' (List.mem_cons_of_mem _ hc)

structure Lasts (d : Dk) (t : ByteArray) (id : Int) (b : List Int) : Prop where
  f : Pf t id (findP d.F.l)
  p : ∀ c ∈ d.F.p, c.a ≠ t ∧ c.b ≠ t ∧ (c.k = 1 → c.id ≠ id)
  x : getK d.K id = some ⟨b, []⟩
  h : id ≤ d.last
theorem Lasts.beh {d : Dk} {t : ByteArray} {id : Int} {b : List Int} (h : Lasts d t id b) (n : Nat) : Pf t id (findP (behP d.F n)) := by
  rw [(beh_both d.F n).2]
  exact Pf.fold _ h.f fun c hc => h.p c (List.mem_of_mem_take hc)
theorem getK_cr (K : List Kt) (i : Int) : ∀ ch, ∃ c, getK (crK K ch) i = (getK K i).map fun x => crashP x c := by
  induction K with
  | nil => exact fun ch => ⟨[], rfl⟩
  | cons k K ih =>
    intro ch
    show ∃ c, getK (⟨k.id, crashP k.x ch⟩ :: crK K (restP k.x ch)) i = _
    rw [getK, getK]
    dsimp only
    by_cases e : k.id = i
    · rw [if_pos e, if_pos e]; exact ⟨ch, rfl⟩
    · rw [if_neg e, if_neg e]; exact ih _
theorem atK_of {K : List Kt} {i : Int} {x : Fi} (h : getK K i = some x) : atK K i = x := by unfold atK; rw [h]; rfl
theorem Lasts.settle {d : Dk} {t : ByteArray} {id : Int} {b : List Int} (h : Lasts d t id b) (n : Nat) {K : List Kt} (hK : getK K id = some ⟨b, []⟩) (f : Int) (o : Bool) :
    Lasts { d with F := crashQ d.F n, K := tidyK K (idsP (crashQ d.F n)), fuse := f, off := o } t id b where
  f := h.beh n
  p := fun c hc => by cases hc
  x := by
    show getK (tidyK K _) id = _
    rw [getK_tidy, atK_of hK, if_pos ((mem_idsP' _ _).2 (Or.inl ⟨t, (h.beh n).1⟩))]
  h := h.h
theorem Lasts.crash {d : Dk} {t : ByteArray} {id : Int} {b : List Int} (h : Lasts d t id b) (ch : List Int) : Lasts (crashD d ch) t id b := by
  refine h.settle (ch.headD 0).toNat ?_ (-1) false
  obtain ⟨c, hc⟩ := getK_cr d.K id ch.tail
  rw [hc, h.x]
  show some (crashP ⟨b, []⟩ c) = _
  unfold crashP
  rw [surP_nil]
theorem Lasts.sync {d : Dk} {t : ByteArray} {id : Int} {b : List Int} (h : Lasts d t id b) : Lasts (syncDirP d).1 t id b := h.settle d.F.p.length h.x d.fuse d.off
theorem Lasts.edit {m : Nat} {d : Dk} {t : ByteArray} {id : Int} {b : List Int} (h : Lasts d t id b) (ho : d.Ok m) {s : ByteArray} (hs : s ≠ t) (g : Fi → Fi × Int) : Lasts (editP d s g).1 t id b := by
  unfold editP
  split
  · exact h
  · rename_i i hi
    have hne : i ≠ id := fun e => hs ((h.beh d.F.p.length).2 s (by rw [← e]; exact hi))
    split
    · refine { h with x := ?_ }
      show getK (setK d.K i _) id = _
      rw [getK_set _ (by rw [ho.ids]; exact find_ids hi), if_neg (fun e => hne e.symm)]
      exact h.x
    · exact h
theorem Lasts.chg {d : Dk} {t : ByteArray} {id : Int} {b : List Int} (h : Lasts d t id b) (c : Cg) (hc : c.a ≠ t ∧ c.b ≠ t ∧ (c.k = 1 → c.id ≠ id)) : Lasts { d with F := doP diskP d.F c } t id b := by
  unfold doP
  split
  · refine { h with f := h.f, p := ?_ }
    intro c' hc'
    rcases List.mem_append.1 hc' with hc' | hc'
    · exact h.p c' hc'
    · obtain rfl := List.mem_singleton.1 hc'; exact hc
  · exact h
theorem Lasts.create {d : Dk} {t : ByteArray} {id : Int} {b : List Int} (h : Lasts d t id b) {s : ByteArray} (hs : s ≠ t) (ht : (⟨#[]⟩ : ByteArray) ≠ t) : Lasts (createP d s).1 t id b := by
  unfold createP
  split
  · exact h
  · split
    · have hl := h.h
      have := h.chg ⟨1, s, ⟨#[]⟩, d.last + 1⟩ ⟨hs, ht, fun _ => by dsimp only; omega⟩
      refine { this with x := ?_, h := ?_ }
      · show getK (d.K ++ [_]) id = _
        rw [getK_append, h.x]; rfl
      · show id ≤ d.last + 1; omega
    · exact h
theorem Lasts.step {m : Nat} {d : Dk} {t : ByteArray} {id : Int} {b : List Int} (h : Lasts d t id b) (ho : d.Ok m) (ht : (⟨#[]⟩ : ByteArray) ≠ t) {c : Cl} (hs : c.s ≠ t) (hto : c.t ≠ t) : Lasts (stepP d c).1 t id b := by
  unfold stepP powP
  split
  · split
    · exact { h with }
    · have h1 : Lasts (tickP d) t id b := { h with }
      have ho1 := tick_ok ho
      unfold effP
      split
      · exact h1.create hs ht
      split
      · exact h1.edit ho1 hs _
      split
      · exact h1.edit ho1 hs _
      split
      · exact h1.edit ho1 hs _
      split
      · exact h1.chg _ ⟨hs, hto, fun e => by cases e⟩
      split
      · exact h1.chg _ ⟨hs, ht, fun e => by cases e⟩
      · exact h1.sync
  split
  · exact { h with }
  split
  · exact h.crash _
  · exact h

/-- how it comes to be so -/
theorem pow_up {d : Dk} (ho : d.off = false) (hf : d.fuse = -1) (f : Dk → Dk × Int) : powP d f = f (tickP d) := by
  unfold powP downP
  rw [ho, hf]; rfl
theorem tick_up {d : Dk} (hf : d.fuse = -1) : (tickP d).fuse = -1 := by
  unfold tickP
  dsimp only
  rw [if_neg (by omega)]; exact hf
structure Up (d : Dk) : Prop where
  o : d.off = false
  f : d.fuse = -1
theorem crash_up (d : Dk) (ch : List Int) : Up (crashD d ch) := ⟨rfl, rfl⟩
theorem made {m : Nat} {d : Dk} (ho : d.Ok m) (hu : Up d) (hp : d.F.p = []) {t : ByteArray} {b : List Int} {d2 d3 d4 d5 : Dk}
    (h2 : powP d (fun d => createP d t) = (d2, 0)) (h3 : powP d2 (fun d => editP d t (appX d b)) = (d3, 0)) (h4 : powP d3 (fun d => editP d t synX) = (d4, 0)) (h5 : powP d4 (fun d => syncDirP d) = (d5, 0)) :
    Lasts d5 t (d.last + 1) b := by
  have hids : ∀ s i, findP d.F.l s = some i → i ≤ d.last := fun s i h => (ho.low i ((mem_idsP' _ _).2 (Or.inl ⟨s, h⟩))).2
  have hK : (d.last + 1) ∉ idK d.K := fun hm => by rw [ho.ids] at hm; have := (ho.low _ hm).2; omega
  rw [pow_up hu.o hu.f] at h2
  unfold createP at h2
  have e2 : d2 = { tickP d with F := ⟨d.F.l, [⟨1, t, ⟨#[]⟩, d.last + 1⟩]⟩, K := d.K ++ [⟨d.last + 1, fi0⟩], last := d.last + 1 } := by
    split at h2
    · cases h2
    · split at h2
      · rename_i he
        obtain ⟨rfl, _⟩ := Prod.mk.inj h2
        unfold doP
        rw [if_pos he]
        show ({ tickP d with F := ⟨d.F.l, d.F.p ++ [_]⟩, K := _, last := _ } : Dk) = _
        rw [hp]; rfl
      · rename_i hn
        exact absurd (Prod.mk.inj h2).2 hn
  have u2 : Up d2 := by rw [e2]; exact ⟨hu.o, tick_up hu.f⟩
  have F2 : d2.F = ⟨d.F.l, [⟨1, t, ⟨#[]⟩, d.last + 1⟩]⟩ := by rw [e2]
  have K2 : d2.K = d.K ++ [⟨d.last + 1, fi0⟩] := by rw [e2]
  have L2 : d2.last = d.last + 1 := by rw [e2]
  clear e2
  have N2 : ∀ s, findP (nowQ d2.F) s = if s = t then some (d.last + 1) else findP d.F.l s := fun s => by
    unfold nowQ
    rw [(beh_both _ _).2]
    unfold aftF
    rw [F2]
    rfl
  have g2 : getK d2.K (d.last + 1) = some fi0 := by rw [K2, getK_append, getK_none hK, getK, if_pos rfl]; rfl
  rw [pow_up u2.o u2.f] at h3
  have i2 : (d.last + 1) ∈ idK d2.K := getK_in g2
  unfold editP at h3
  have N2' : findP (nowQ (tickP d2).F) t = some (d.last + 1) := (N2 t).trans (if_pos rfl)
  rw [N2'] at h3
  dsimp only at h3
  have a2 : atK (tickP d2).K (d.last + 1) = fi0 := atK_of g2
  rw [a2] at h3
  have e3 : appendE fi0 b = 0 ∧ d3 = { tickP d2 with K := setK d2.K (d.last + 1) (appendP fi0 b) } := by
    split at h3
    · rename_i he
      refine ⟨?_, (Prod.mk.inj h3).1.symm⟩
      unfold appX at he
      dsimp only at he
      split at he
      · rename_i hne; exact absurd he hne
      · rename_i hne; exact Classical.not_not.1 hne
    · rename_i hn; exact absurd (Prod.mk.inj h3).2 hn
  obtain ⟨hE, e3⟩ := e3
  have u3 : Up d3 := by rw [e3]; exact ⟨u2.o, tick_up u2.f⟩
  have F3 : d3.F = d2.F := by rw [e3]; rfl
  have g3 : getK d3.K (d.last + 1) = some (appendP fi0 b) := by rw [e3]; dsimp only; rw [getK_set _ i2, if_pos rfl]
  have L3 : d3.last = d.last + 1 := by rw [e3]; exact L2
  clear e3
  rw [pow_up u3.o u3.f] at h4
  unfold editP at h4
  have N3' : findP (nowQ (tickP d3).F) t = some (d.last + 1) := by show findP (nowQ d3.F) t = _; rw [F3]; exact (N2 t).trans (if_pos rfl)
  rw [N3'] at h4
  dsimp only at h4
  have a3 : atK (tickP d3).K (d.last + 1) = appendP fi0 b := atK_of g3
  rw [a3] at h4
  have e4 : d4 = { tickP d3 with K := setK d3.K (d.last + 1) (syncP (appendP fi0 b)) } := by
    split at h4
    · exact (Prod.mk.inj h4).1.symm
    · rename_i hn; exact absurd rfl hn
  have u4 : Up d4 := by rw [e4]; exact ⟨u3.o, tick_up u3.f⟩
  have F4 : d4.F = d2.F := by rw [e4]; exact F3
  have hb : syncP (appendP fi0 b) = ⟨b, []⟩ := by
    unfold appendE at hE
    split at hE
    · cases hE
    · rename_i h1
      have h2 := now_append [] b h1
      unfold syncP
      rw [show nowP (appendP fi0 b) = [] ++ b from h2]; rfl
  have g4 : getK d4.K (d.last + 1) = some ⟨b, []⟩ := by rw [e4]; dsimp only; rw [getK_set _ (getK_in g3), if_pos rfl, hb]
  have L4 : d4.last = d.last + 1 := by rw [e4]; exact L3
  clear e4
  rw [pow_up u4.o u4.f] at h5
  have hpf : Pf t (d.last + 1) (findP (nowQ d2.F)) := by
    refine ⟨(N2 t).trans (if_pos rfl), fun s hs => ?_⟩
    rw [N2 s] at hs
    split at hs
    · rename_i e; exact e
    · have := hids s _ hs; omega
  obtain ⟨e5, _⟩ := Prod.mk.inj h5
  rw [← e5]
  refine ⟨?_, (fun c hc => by cases hc), ?_, ?_⟩
  · show Pf t (d.last + 1) (findP (nowQ d4.F))
    rw [F4]; exact hpf
  · show getK (tidyK d4.K (idsP (syncQ d4.F))) _ = _
    rw [getK_tidy, atK_of g4, F4, if_pos ((mem_idsP' _ _).2 (Or.inl ⟨t, hpf.1⟩))]
  · show d.last + 1 ≤ d4.last
    omega
theorem lasts_bytes {d : Dk} {t : ByteArray} {id : Int} {b : List Int} (h : Lasts d t id b) (ho : d.off = false) : bytesP d t = (b, 0) := by
  unfold bytesP
  rw [ho, if_neg (by decide), show findP (nowQ d.F) t = some id from (h.beh d.F.p.length).1]
  dsimp only
  rw [atK_of h.x]; rfl
theorem lasts_read {d : Dk} {t : ByteArray} {id : Int} {b : List Int} (h : Lasts d t id b) (ho : d.off = false) : readP d t 0 (b.length : Int) = (b, 0) := by
  unfold readP
  rw [lasts_bytes h ho]
  dsimp only
  rw [if_neg (by decide), if_neg (by omega)]
  simp
end Go.Proofs.YtbjfbecpagdoeaaGreat

namespace Go.Proofs.YtbjfbecpagdoeaaGreat
set_option linter.unusedVariables false
open Go.RowKit Go.Lib Go.ChangeShapes Go.WideShapes Go.ChangeAt

theorem sit_size : sit.size ≤ 1048576 := by decide
theorem sit_list : sit.toList = ([105, 116] : List UInt8) := by rw [bytes_toList]; rfl
theorem same_self (p q : Option Addr) (n m c d : Nat) (xs : List Int) (w : World) (hn : n ≤ maxLen) (hm : m ≤ maxLen) (hx : Bs w p n xs) (hy : Bs w q m xs) :
    Calls Tryz.prog 21 #[.slice p n c, .slice q m d] w fun e w' => e = .returned (.bool true) ∧ ∃ q, w' = w.drewN q :=
  (same_any p q n m c d xs xs w hn hm hx hy).mono fun e w' ⟨h1, h2⟩ => ⟨h1.trans (by rw [decide_eq_true rfl]), h2⟩
theorem sit_ne : (⟨#[]⟩ : ByteArray) ≠ sit := by decide
theorem fit_mem2 {W : World} {L : List Cx} (hf : ∀ c ∈ L, c.Fit W) {k : Nat} (hk : k < L.length) : (L.getD k cx0).Fit W := by
  rw [List.getD_eq_getElem?_getD, List.getElem?_eq_getElem hk]; exact hf _ (List.getElem_mem _)
theorem cl_it {k n : Int} {b : List Int} (hk : InI k) (hb : b.length ≤ 1048576) (hn : InI n) : (⟨k, sit, sit, b, n⟩ : Cl).Ok := ⟨hk, sit_size, sit_size, hb, hn⟩

set_option maxRecDepth 100000 in
set_option maxHeartbeats 4000000 in
theorem diskLasts_walk (a : Option Addr) (n cap : Nat) (L : List Cx) (p : Option Addr) (l c : Nat) (zs : List Int) (a2 : Option Addr) (n2 cap2 : Nat) (L2 : List Cx) (w : World) (hg : Gs encX w a n L) (hf : ∀ c ∈ L, c.Fit w) (hb : Bs w p l zs) (hp : p = none → c = 0) (hlc : l ≤ c) (hc : c ≤ 1048576) (hg2 : Gs encX w a2 n2 L2) (hf2 : ∀ c ∈ L2, c.Fit w) (hz : n * 6 + n2 * 6 ≤ 1048576) :
    Calls Tryz.prog 4 #[.slice a n cap, .slice p l c, .slice a2 n2 cap2] w fun e w' => e = .returned (.bool true) ∧ Below w.heap.size w w' := by
  have hzl := hb.1
  have HG := Lib.hid hg
  have HL := Lib.hid hg.1
  have HF := Lib.hid hf
  have HG2 := Lib.hid hg2
  have HL2 := Lib.hid hg2.1
  have HF2 := Lib.hid hf2
  have HB0 := Lib.hid hb
  have hI : InI 1048576 := by unfold InI; omega
  have hI2 : InI 100 := by unfold InI; omega
  have hIl : InI (l : Int) := by unfold InI; omega
  have HIL := Lib.hid hIl
  have HNEW := Lib.hid fun W => dnew_any 1048576 100 hI hI2 W
  have HDO := Lib.hid fun W D M m d => ddo_any (w := W) (D := D) (M := M) (m := m) (d := d)
  have HLV := Lib.hid fun W => dlives_any W
  have HOK : Hid (∀ j, j ≤ n → (stepsP (newD 1048576 100) (L.take j)).Ok (2 * j)) := Lib.hid fun j hj => by
    have := steps_ok (m := 0) (new_ok hI hI2) hf (by rw [hg.1]; omega) j (by rw [hg.1]; exact hj)
    rwa [Nat.zero_add] at this
  clear hg hf hb hg2 hf2 hI hI2 hIl
  go_enter Tryz.func4, Tryz.ntmps4
  go_wp2_with (go_at_call 13; refine (HNEW.out _).mono ?_; rintro e w1 ⟨D, M, rfl, hw1, hD, hM, hb1⟩; have HB1 := Lib.hid hb1; have HDM : Hid (w.heap.size ≤ D ∧ w.heap.size ≤ M) := Lib.hid ⟨hD, hM⟩; have HW1 := Lib.hid hw1; clear hw1 hD hM hb1)
  go_loopw [8] (fun i wr => ∃ k : Nat, k ≤ n ∧ i = .int .i64 (k : Int) ∧ Hid (Dw wr D M (stepsP (newD 1048576 100) (L.take k))) ∧ Hid (Below w.heap.size w wr)) (fun i _ => n - (intOf i).toNat)
  case atStart => exact ⟨0, Nat.zero_le _, rfl, HW1, HB1⟩
  case round =>
    obtain ⟨k, hk, rfl, HW, HB⟩ := hrel
    by_cases hlt : k < n
    · have hkn : (k : Int) < (n : Int) := by omega
      have hk0 : (0 : Int) ≤ (k : Int) := by omega
      have HST : Hid ((stepP (stepsP (newD 1048576 100) (L.take k)) (L.getD k cx0).cl).1 = stepsP (newD 1048576 100) (L.take (k + 1))) := Lib.hid (steps_take (by rw [HL.out]; exact hlt)).symm
      have HDK := Lib.hid (HDO.out wr D M (2 * k) _ HW.out (HOK.out k hk) (by omega) (L.getD k cx0) ((fit_mem2 HF.out (by rw [HL.out]; exact hlt)).later HB.out))
      obtain ⟨b, off, rfl, c0, c1, c2, c3, c4⟩ := (HG.out.later HB.out).cx k hlt
      generalize stepP (stepsP (newD 1048576 100) (L.take k)) (L.getD k cx0).cl = R at *
      generalize L.getD k cx0 = y at *
      obtain ⟨y0, y1, y2, y3, y4, y5, y6, y7⟩ := y
      dsimp only at c0 c1 c2 c3 c4
      unfold Cx.v at HDK
      dsimp only at HDK
      go_wp2_with (go_at_call 9; refine HDK.out.mono ?_; rintro e w2 ⟨rfl, hw2, hk2⟩; have HW2 := Lib.hid hw2; have HB2 := Lib.hid (hk2.onto HB.out HB.out.size HDM.out.1 HDM.out.2); clear hw2 hk2 c0 c1 c2 c3 c4)
      refine ⟨?_, by simp [intOf] <;> omega⟩
      exact ⟨k + 1, by omega, by go_num, Lib.hid (by rw [← HST.out]; exact HW2.out), HB2⟩
    · obtain rfl : k = n := by omega
      have HO := Lib.hid (HOK.out k (Nat.le_refl _))
      generalize stepsP (newD 1048576 100) (L.take k) = d at *
      obtain ⟨x0, fu0, g0, hx0⟩ := HW.out
      have HC0 := Lib.hid (dcrash_any hx0 HO.out (by omega) none 0 0 [] (Bs.empty _ _) (fun _ => rfl) (Nat.le_refl _) (by omega))
      have HO1 := Lib.hid (crash_ok HO.out [])
      have HUP := Lib.hid (crash_up d [])
      have HP : Hid ((crashD d []).F.p = []) := Lib.hid rfl
      clear hx0 HW
      generalize crashD d [] = d1 at *
      obtain ⟨⟨d2, e2⟩, hR2⟩ : ∃ R, powP d1 (fun d => createP d sit) = R := ⟨_, rfl⟩
      obtain ⟨⟨d3, e3⟩, hR3⟩ : ∃ R, powP d2 (fun d => editP d sit (appX d zs)) = R := ⟨_, rfl⟩
      obtain ⟨⟨d4, e4⟩, hR4⟩ : ∃ R, powP d3 (fun d => editP d sit synX) = R := ⟨_, rfl⟩
      obtain ⟨⟨d5, e5⟩, hR5⟩ : ∃ R, powP d4 (fun d => syncDirP d) = R := ⟨_, rfl⟩
      have ho2 := step_ok HO1.out (by omega) (cl_it (k := 1) (n := 0) (b := zs) (by unfold InI; omega) (by omega) (by unfold InI; omega))
      rw [show stepP d1 ⟨1, sit, sit, zs, 0⟩ = powP d1 (fun d => createP d sit) from rfl, hR2] at ho2
      have ho3 := step_ok ho2 (by omega) (cl_it (k := 2) (n := 0) (b := zs) (by unfold InI; omega) (by omega) (by unfold InI; omega))
      rw [show stepP d2 ⟨2, sit, sit, zs, 0⟩ = powP d2 (fun d => editP d sit (appX d zs)) from rfl, hR3] at ho3
      have ho4 := step_ok ho3 (by omega) (cl_it (k := 4) (n := 0) (b := zs) (by unfold InI; omega) (by omega) (by unfold InI; omega))
      rw [show stepP d3 ⟨4, sit, sit, zs, 0⟩ = powP d3 (fun d => editP d sit synX) from rfl, hR4] at ho4
      have ho5 := step_ok ho4 (by omega) (cl_it (k := 7) (n := 0) (b := zs) (by unfold InI; omega) (by omega) (by unfold InI; omega))
      rw [show stepP d4 ⟨7, sit, sit, zs, 0⟩ = powP d4 (fun d => syncDirP d) from rfl, hR5] at ho5
      dsimp only at ho2 ho3 ho4 ho5
      have HO2 := Lib.hid ho2
      have HO3 := Lib.hid ho3
      have HO4 := Lib.hid ho4
      have HO5 := Lib.hid ho5
      have HR2 := Lib.hid hR2
      have HR3 := Lib.hid hR3
      have HR4 := Lib.hid hR4
      have HR5 := Lib.hid hR5
      clear ho2 ho3 ho4 ho5 hR2 hR3 hR4 hR5
      by_cases h2 : ¬ e2 = 0
      · have q2 : (e2 != 0) = true := by simpa using h2
        clear h2
        go_wp2_with (first
          | (go_at_call 14; refine HC0.out.mono ?_; rintro e w2 ⟨rfl, hw2, hk2⟩
             have HB2 := Lib.hid (hk2.onto HB.out HB.out.size HDM.out.1 HDM.out.2)
             have HC2 := Lib.hid (dcreate_any hw2 HO1.out (by omega) sit sit_size)
             rw [HR2.out] at HC2
             dsimp only at HC2
             clear hw2 hk2 HC0)
          | (go_at_call 15; refine HC2.out.mono ?_; rintro e w3 ⟨rfl, hw3, hk3⟩
             have HB3 := Lib.hid (hk3.onto HB2.out HB2.out.size HDM.out.1 HDM.out.2)
             have HC3 := Lib.hid (dappend_any hw3 HO2.out (by omega) sit sit_size p l c zs (HB0.out.later HB3.out) hp hlc (by omega))
             rw [HR3.out] at HC3
             dsimp only at HC3
             clear hw3 hk3 HC2)
          | (go_at_call 16; refine HC3.out.mono ?_; rintro e w4 ⟨rfl, hw4, hk4⟩
             have HB4 := Lib.hid (hk4.onto HB3.out HB3.out.size HDM.out.1 HDM.out.2)
             have HC4 := Lib.hid (dsync_any hw4 HO3.out (by omega) sit sit_size)
             rw [HR4.out] at HC4
             dsimp only at HC4
             clear hw4 hk4 HC3)
          | (go_at_call 17; refine HC4.out.mono ?_; rintro e w5 ⟨rfl, hw5, hk5⟩
             have HB5 := Lib.hid (hk5.onto HB4.out HB4.out.size HDM.out.1 HDM.out.2)
             have HC5 := Lib.hid (dsyncdir_any hw5 HO4.out (by omega))
             rw [HR5.out] at HC5
             dsimp only at HC5
             clear hw5 hk5 HC4)
          | (go_at_call 18; refine HC5.out.mono ?_; rintro e w6 ⟨rfl, hw6, hk6⟩
             have HB6 := Lib.hid (hk6.onto HB5.out HB5.out.size HDM.out.1 HDM.out.2)
             have HW6 := Lib.hid hw6
             clear hw6 hk6 HC5)
          | (go_at_call 12; refine (HLV.out _).mono ?_; rintro e w9 ⟨rfl, hb9⟩
             have HB9 := Lib.hid (below_step HB3.out hb9)
             clear hb9))
        go_ret
        exact ⟨rfl, HB9.out⟩
      obtain rfl : e2 = 0 := Classical.not_not.1 h2
      clear h2
      by_cases h3 : ¬ e3 = 0
      · have q3 : (e3 != 0) = true := by simpa using h3
        clear h3
        go_wp2_with (first
          | (go_at_call 14; refine HC0.out.mono ?_; rintro e w2 ⟨rfl, hw2, hk2⟩
             have HB2 := Lib.hid (hk2.onto HB.out HB.out.size HDM.out.1 HDM.out.2)
             have HC2 := Lib.hid (dcreate_any hw2 HO1.out (by omega) sit sit_size)
             rw [HR2.out] at HC2
             dsimp only at HC2
             clear hw2 hk2 HC0)
          | (go_at_call 15; refine HC2.out.mono ?_; rintro e w3 ⟨rfl, hw3, hk3⟩
             have HB3 := Lib.hid (hk3.onto HB2.out HB2.out.size HDM.out.1 HDM.out.2)
             have HC3 := Lib.hid (dappend_any hw3 HO2.out (by omega) sit sit_size p l c zs (HB0.out.later HB3.out) hp hlc (by omega))
             rw [HR3.out] at HC3
             dsimp only at HC3
             clear hw3 hk3 HC2)
          | (go_at_call 16; refine HC3.out.mono ?_; rintro e w4 ⟨rfl, hw4, hk4⟩
             have HB4 := Lib.hid (hk4.onto HB3.out HB3.out.size HDM.out.1 HDM.out.2)
             have HC4 := Lib.hid (dsync_any hw4 HO3.out (by omega) sit sit_size)
             rw [HR4.out] at HC4
             dsimp only at HC4
             clear hw4 hk4 HC3)
          | (go_at_call 17; refine HC4.out.mono ?_; rintro e w5 ⟨rfl, hw5, hk5⟩
             have HB5 := Lib.hid (hk5.onto HB4.out HB4.out.size HDM.out.1 HDM.out.2)
             have HC5 := Lib.hid (dsyncdir_any hw5 HO4.out (by omega))
             rw [HR5.out] at HC5
             dsimp only at HC5
             clear hw5 hk5 HC4)
          | (go_at_call 18; refine HC5.out.mono ?_; rintro e w6 ⟨rfl, hw6, hk6⟩
             have HB6 := Lib.hid (hk6.onto HB5.out HB5.out.size HDM.out.1 HDM.out.2)
             have HW6 := Lib.hid hw6
             clear hw6 hk6 HC5)
          | (go_at_call 12; refine (HLV.out _).mono ?_; rintro e w9 ⟨rfl, hb9⟩
             have HB9 := Lib.hid (below_step HB4.out hb9)
             clear hb9))
        go_ret
        exact ⟨rfl, HB9.out⟩
      obtain rfl : e3 = 0 := Classical.not_not.1 h3
      clear h3
      by_cases h4 : ¬ e4 = 0
      · have q4 : (e4 != 0) = true := by simpa using h4
        clear h4
        go_wp2_with (first
          | (go_at_call 14; refine HC0.out.mono ?_; rintro e w2 ⟨rfl, hw2, hk2⟩
             have HB2 := Lib.hid (hk2.onto HB.out HB.out.size HDM.out.1 HDM.out.2)
             have HC2 := Lib.hid (dcreate_any hw2 HO1.out (by omega) sit sit_size)
             rw [HR2.out] at HC2
             dsimp only at HC2
             clear hw2 hk2 HC0)
          | (go_at_call 15; refine HC2.out.mono ?_; rintro e w3 ⟨rfl, hw3, hk3⟩
             have HB3 := Lib.hid (hk3.onto HB2.out HB2.out.size HDM.out.1 HDM.out.2)
             have HC3 := Lib.hid (dappend_any hw3 HO2.out (by omega) sit sit_size p l c zs (HB0.out.later HB3.out) hp hlc (by omega))
             rw [HR3.out] at HC3
             dsimp only at HC3
             clear hw3 hk3 HC2)
          | (go_at_call 16; refine HC3.out.mono ?_; rintro e w4 ⟨rfl, hw4, hk4⟩
             have HB4 := Lib.hid (hk4.onto HB3.out HB3.out.size HDM.out.1 HDM.out.2)
             have HC4 := Lib.hid (dsync_any hw4 HO3.out (by omega) sit sit_size)
             rw [HR4.out] at HC4
             dsimp only at HC4
             clear hw4 hk4 HC3)
          | (go_at_call 17; refine HC4.out.mono ?_; rintro e w5 ⟨rfl, hw5, hk5⟩
             have HB5 := Lib.hid (hk5.onto HB4.out HB4.out.size HDM.out.1 HDM.out.2)
             have HC5 := Lib.hid (dsyncdir_any hw5 HO4.out (by omega))
             rw [HR5.out] at HC5
             dsimp only at HC5
             clear hw5 hk5 HC4)
          | (go_at_call 18; refine HC5.out.mono ?_; rintro e w6 ⟨rfl, hw6, hk6⟩
             have HB6 := Lib.hid (hk6.onto HB5.out HB5.out.size HDM.out.1 HDM.out.2)
             have HW6 := Lib.hid hw6
             clear hw6 hk6 HC5)
          | (go_at_call 12; refine (HLV.out _).mono ?_; rintro e w9 ⟨rfl, hb9⟩
             have HB9 := Lib.hid (below_step HB5.out hb9)
             clear hb9))
        go_ret
        exact ⟨rfl, HB9.out⟩
      obtain rfl : e4 = 0 := Classical.not_not.1 h4
      clear h4
      by_cases h5 : ¬ e5 = 0
      · have q5 : (e5 != 0) = true := by simpa using h5
        clear h5
        go_wp2_with (first
          | (go_at_call 14; refine HC0.out.mono ?_; rintro e w2 ⟨rfl, hw2, hk2⟩
             have HB2 := Lib.hid (hk2.onto HB.out HB.out.size HDM.out.1 HDM.out.2)
             have HC2 := Lib.hid (dcreate_any hw2 HO1.out (by omega) sit sit_size)
             rw [HR2.out] at HC2
             dsimp only at HC2
             clear hw2 hk2 HC0)
          | (go_at_call 15; refine HC2.out.mono ?_; rintro e w3 ⟨rfl, hw3, hk3⟩
             have HB3 := Lib.hid (hk3.onto HB2.out HB2.out.size HDM.out.1 HDM.out.2)
             have HC3 := Lib.hid (dappend_any hw3 HO2.out (by omega) sit sit_size p l c zs (HB0.out.later HB3.out) hp hlc (by omega))
             rw [HR3.out] at HC3
             dsimp only at HC3
             clear hw3 hk3 HC2)
          | (go_at_call 16; refine HC3.out.mono ?_; rintro e w4 ⟨rfl, hw4, hk4⟩
             have HB4 := Lib.hid (hk4.onto HB3.out HB3.out.size HDM.out.1 HDM.out.2)
             have HC4 := Lib.hid (dsync_any hw4 HO3.out (by omega) sit sit_size)
             rw [HR4.out] at HC4
             dsimp only at HC4
             clear hw4 hk4 HC3)
          | (go_at_call 17; refine HC4.out.mono ?_; rintro e w5 ⟨rfl, hw5, hk5⟩
             have HB5 := Lib.hid (hk5.onto HB4.out HB4.out.size HDM.out.1 HDM.out.2)
             have HC5 := Lib.hid (dsyncdir_any hw5 HO4.out (by omega))
             rw [HR5.out] at HC5
             dsimp only at HC5
             clear hw5 hk5 HC4)
          | (go_at_call 18; refine HC5.out.mono ?_; rintro e w6 ⟨rfl, hw6, hk6⟩
             have HB6 := Lib.hid (hk6.onto HB5.out HB5.out.size HDM.out.1 HDM.out.2)
             have HW6 := Lib.hid hw6
             clear hw6 hk6 HC5)
          | (go_at_call 12; refine (HLV.out _).mono ?_; rintro e w9 ⟨rfl, hb9⟩
             have HB9 := Lib.hid (below_step HB6.out hb9)
             clear hb9))
        go_ret
        exact ⟨rfl, HB9.out⟩
      obtain rfl : e5 = 0 := Classical.not_not.1 h5
      clear h5
      have HLA := Lib.hid (made HO1.out HUP.out HP.out HR2.out HR3.out HR4.out HR5.out)
      generalize d1.last + 1 = id at *
      go_wp2_with (first
          | (go_at_call 14; refine HC0.out.mono ?_; rintro e w2 ⟨rfl, hw2, hk2⟩
             have HB2 := Lib.hid (hk2.onto HB.out HB.out.size HDM.out.1 HDM.out.2)
             have HC2 := Lib.hid (dcreate_any hw2 HO1.out (by omega) sit sit_size)
             rw [HR2.out] at HC2
             dsimp only at HC2
             clear hw2 hk2 HC0)
          | (go_at_call 15; refine HC2.out.mono ?_; rintro e w3 ⟨rfl, hw3, hk3⟩
             have HB3 := Lib.hid (hk3.onto HB2.out HB2.out.size HDM.out.1 HDM.out.2)
             have HC3 := Lib.hid (dappend_any hw3 HO2.out (by omega) sit sit_size p l c zs (HB0.out.later HB3.out) hp hlc (by omega))
             rw [HR3.out] at HC3
             dsimp only at HC3
             clear hw3 hk3 HC2)
          | (go_at_call 16; refine HC3.out.mono ?_; rintro e w4 ⟨rfl, hw4, hk4⟩
             have HB4 := Lib.hid (hk4.onto HB3.out HB3.out.size HDM.out.1 HDM.out.2)
             have HC4 := Lib.hid (dsync_any hw4 HO3.out (by omega) sit sit_size)
             rw [HR4.out] at HC4
             dsimp only at HC4
             clear hw4 hk4 HC3)
          | (go_at_call 17; refine HC4.out.mono ?_; rintro e w5 ⟨rfl, hw5, hk5⟩
             have HB5 := Lib.hid (hk5.onto HB4.out HB4.out.size HDM.out.1 HDM.out.2)
             have HC5 := Lib.hid (dsyncdir_any hw5 HO4.out (by omega))
             rw [HR5.out] at HC5
             dsimp only at HC5
             clear hw5 hk5 HC4)
          | (go_at_call 18; refine HC5.out.mono ?_; rintro e w6 ⟨rfl, hw6, hk6⟩
             have HB6 := Lib.hid (hk6.onto HB5.out HB5.out.size HDM.out.1 HDM.out.2)
             have HW6 := Lib.hid hw6
             clear hw6 hk6 HC5)
          | (go_at_call 12; refine (HLV.out _).mono ?_; rintro e w9 ⟨rfl, hb9⟩
             have HB9 := Lib.hid (below_step HB6.out hb9)
             clear hb9))
      clear HR2 HR3 HR4 HR5 HO2 HO3 HO4 HO1 HUP HP HO
      go_loopw [9] (fun i wr => ∃ j : Nat, j ≤ n2 ∧ i = .int .i64 (j : Int) ∧ ∃ dj, Hid (Dw wr D M dj ∧ dj.Ok (2 * k + 8 + 2 * j) ∧ Lasts dj sit id zs) ∧ Hid (Below w.heap.size w wr)) (fun i _ => n2 - (intOf i).toNat)
      case atStart => exact ⟨0, Nat.zero_le _, rfl, d5, Lib.hid ⟨HW6.out, HO5.out, HLA.out⟩, HB6⟩
      case round =>
        clear HB6 HW6 HO5 HLA
        obtain ⟨j, hj, rfl, dj, HDJ, HBJ⟩ := hrel
        by_cases hlt2 : j < n2
        · have hkn : (j : Int) < (n2 : Int) := by omega
          have hk0 : (0 : Int) ≤ (j : Int) := by omega
          have HFJ := Lib.hid ((fit_mem2 HF2.out (by rw [HL2.out]; exact hlt2)).later HBJ.out)
          have HDK := Lib.hid (HDO.out wr D M _ _ HDJ.out.1 HDJ.out.2.1 (by omega) (L2.getD j cx0) HFJ.out)
          have HSJ := Lib.hid (step_ok HDJ.out.2.1 (by omega) HFJ.out.ok)
          have HSL : Hid ((L2.getD j cx0).s ≠ sit → (L2.getD j cx0).t ≠ sit → Lasts (stepP dj (L2.getD j cx0).cl).1 sit id zs) := Lib.hid fun h1 h2 => HDJ.out.2.2.step HDJ.out.2.1 sit_ne h1 h2
          obtain ⟨b, off, rfl, c0, c1, c2, c3, c4⟩ := (HG2.out.later HBJ.out).cx j hlt2
          generalize stepP dj (L2.getD j cx0).cl = R at *
          generalize L2.getD j cx0 = y at *
          obtain ⟨y0, y1, y2, y3, y4, y5, y6, y7⟩ := y
          dsimp only at c0 c1 c2 c3 c4 HSL
          unfold Cx.v at HDK
          dsimp only at HDK
          by_cases s1 : y1 = sit
          · have q1 : (y1.toList == ([105, 116] : List UInt8)) = true := by rw [← sit_list]; exact sq_true s1
            have r1 : y1.toList = ([105, 116] : List UInt8) := by rw [s1]; exact sit_list
            clear s1
            go_wp2
            refine ⟨?_, by simp [intOf] <;> omega⟩
            exact ⟨j + 1, by omega, by go_num, dj, Lib.hid ⟨HDJ.out.1, HDJ.out.2.1.mono (by omega), HDJ.out.2.2⟩, HBJ⟩
          by_cases s2 : y2 = sit
          · have q1 : (y1.toList == ([105, 116] : List UInt8)) = false := by rw [← sit_list]; exact sq_false s1
            have q2 : (y2.toList == ([105, 116] : List UInt8)) = true := by rw [← sit_list]; exact sq_true s2
            have r1 : ¬ y1.toList = ([105, 116] : List UInt8) := fun e => by rw [e] at q1; simp at q1
            have r2 : y2.toList = ([105, 116] : List UInt8) := by rw [s2]; exact sit_list
            clear s1 s2
            go_wp2
            refine ⟨?_, by simp [intOf] <;> omega⟩
            exact ⟨j + 1, by omega, by go_num, dj, Lib.hid ⟨HDJ.out.1, HDJ.out.2.1.mono (by omega), HDJ.out.2.2⟩, HBJ⟩
          have HSL2 := Lib.hid (HSL.out s1 s2)
          have q1 : (y1.toList == ([105, 116] : List UInt8)) = false := by rw [← sit_list]; exact sq_false s1
          have q2 : (y2.toList == ([105, 116] : List UInt8)) = false := by rw [← sit_list]; exact sq_false s2
          have r1 : ¬ y1.toList = ([105, 116] : List UInt8) := fun e => by rw [e] at q1; simp at q1
          have r2 : ¬ y2.toList = ([105, 116] : List UInt8) := fun e => by rw [e] at q2; simp at q2
          clear s1 s2 HSL
          go_wp2_with (go_at_call 9; refine HDK.out.mono ?_; rintro e w2 ⟨rfl, hw2, hk2⟩; have HW2 := Lib.hid hw2; have HB2 := Lib.hid (hk2.onto HBJ.out HBJ.out.size HDM.out.1 HDM.out.2); clear hw2 hk2 c0 c1 c2 c3 c4)
          refine ⟨?_, by simp [intOf] <;> omega⟩
          exact ⟨j + 1, by omega, by go_num, R.1, Lib.hid ⟨HW2.out, HSJ.out, HSL2.out⟩, HB2⟩
        · obtain rfl : j = n2 := by omega
          have HLC := Lib.hid (HDJ.out.2.2.crash [1, 1, 1])
          have HOC := Lib.hid (crash_ok HDJ.out.2.1 [1, 1, 1])
          have HBY : Hid (bytesP (crashD dj [1, 1, 1]) sit = (zs, 0)) := Lib.hid (lasts_bytes HLC.out rfl)
          have HRD : Hid (readP (crashD dj [1, 1, 1]) sit 0 (l : Int) = (zs, 0)) := Lib.hid (by rw [← hzl]; exact lasts_read HLC.out rfl)
          have HDC := Lib.hid fun W (h : Below wr.heap.size wr W) r e => fun hb => (let ⟨_, _, _, hx⟩ := HDJ.out.1; dcrash_any (hx.later h) HDJ.out.2.1 (by omega) r 3 e [1, 1, 1] hb)
          generalize crashD dj [1, 1, 1] = dc at *
          have q0 : ((zs.length : Int) == (l : Int)) = true := by rw [hzl]; simp
          go_wp2_with (first
            | (go_at_call 14; refine (HDC.out _ ((Below.refl _ _).alloc (Nat.le_refl _) _) _ _ (bs_lit _ _ _ [1, 1, 1] 3 rfl (by unfold maxLen; omega) (by intro j; match j with | 0 | 1 | 2 => decide | j + 3 => simp) rfl) (fun h => by cases h) (Nat.le_refl _) (by omega)).mono ?_; rintro e w2 ⟨rfl, hw2, hk2⟩
               have HW2 := Lib.hid hw2
               have HB2 := Lib.hid (hk2.onto (HBJ.out.trans (((Below.refl _ _).alloc (Nat.le_refl _) _).mono HBJ.out.size)) (Nat.le_trans HBJ.out.size (Below.size ((Below.refl _ _).alloc (Nat.le_refl _) _))) HDM.out.1 HDM.out.2)
               obtain ⟨x2, fu2, g2, hx2⟩ := HW2.out
               have HS2 := Lib.hid (dsize_any hx2 HOC.out (by omega) sit sit_size)
               rw [HBY.out] at HS2
               dsimp only at HS2
               rw [hzl] at HS2
               clear hw2 hk2 hx2)
            | (go_at_call 19; refine HS2.out.mono ?_; rintro e w3 ⟨rfl, hb3⟩
               have HB3 := Lib.hid (below_step HB2.out hb3)
               have HW3 := Lib.hid (HW2.out.later hb3)
               obtain ⟨x3, fu3, g3, hx3⟩ := HW3.out
               have HS3 := Lib.hid (dread_any hx3 HOC.out (by omega) sit sit_size 0 (l : Int) (by unfold InI; omega) HIL.out)
               rw [HRD.out] at HS3
               dsimp only at HS3
               clear hb3 hx3)
            | (go_at_call 20; refine HS3.out.mono ?_; rintro e w4 ⟨p4, n4, c4', rfl, hb4, _, _, hn4, hbb4⟩
               have HB4 := Lib.hid (below_step HB3.out hbb4)
               have HSM := Lib.hid (same_self p4 p n4 l c4' c zs w4 (by unfold maxLen; omega) (by unfold maxLen; omega) hb4 (HB0.out.later HB4.out))
               clear hb4 hn4 hbb4)
            | (go_at_call 21; refine HSM.out.mono ?_; rintro e w5 ⟨rfl, z5, rfl⟩
               have HB5 := Lib.hid (below_drewN HB4.out z5))
            | (go_at_call 12; refine (HLV.out _).mono ?_; rintro e w9 ⟨rfl, hb9⟩
               have HB9 := Lib.hid (below_step HB5.out hb9)
               clear hb9))
          go_ret
          exact ⟨rfl, HB9.out⟩

set_option maxRecDepth 100000 in
theorem diskLasts_contract (H : Type) (enc : TypeId × Value → H) (W : World) (base : Nat) (args : Array Value) (ds gs : List (DataW H)) (before : List MemPlace)
    (hval : ∀ (j : Nat) t v, Tryz.f4.params[j]? = some t → args[j]? = some v → Value.okWide Tryz.prog W .any base t v)
    (hW : DataW.Whole enc Tryz.prog Tryz.f4.params.toList Rows.diskLastsSpec.vars false W args.toList ds gs before) (hk : Rows.uptoSmall H (ds ++ gs) = true) :
    Calls Tryz.prog 4 args W fun e W' => ∃ v, e = .returned v ∧ Rows.diskLastsSpec.post enc Tryz.prog Tryz.f4 false true false false W args v W' := by
  have hW' := hW
  obtain ⟨p, q, hA0, hV, rfl, hfz, hnd⟩ := hW
  have hA : DataW.TrodAll enc Tryz.prog W 0 (fun _ => true) true Tryz.f4.params.toList args.toList ds p := hA0
  rw [Tryz.params4] at hA hval
  obtain ⟨v0, vs0, d0, ds0, p0, q0, hargs, rfl, rfl, t0, r0⟩ := trodAll_cons hA
  obtain ⟨v1, vs1, d1, ds1, p1, q1, rfl, rfl, rfl, t1, r1⟩ := trodAll_cons r0
  obtain ⟨v2, vs2, d2, ds2, p2, q2, rfl, rfl, rfl, t2, r2⟩ := trodAll_cons r1
  obtain ⟨rfl, rfl, rfl⟩ := trodAll_nil r2
  obtain rfl : args = #[v0, v1, v2] := by cases args; simp_all
  obtain ⟨rfl, rfl⟩ := trodVars_none hV
  have hk0 := of_decide_eq_true hk
  simp only [Rows.uptoBulkAll, List.append_nil] at hk0
  obtain ⟨a0, len0, cap0, rfl⟩ := okWide_slice Tryz.underlying25 (hval 0 25 v0 rfl rfl)
  obtain ⟨fuel0, t0⟩ := t0
  obtain ⟨L0, hg0, hf0, hz0⟩ := open_calls (by show Rows.uptoBulk d0 ≤ 1048576; omega) t0
  have hz0' : len0 * 6 + 1 ≤ Rows.uptoBulk d0 := hz0
  obtain ⟨a1, len1, cap1, rfl⟩ := okWide_slice Tryz.underlying32 (hval 1 32 v1 rfl rfl)
  obtain ⟨fuel1, t1⟩ := t1
  obtain ⟨hlc1, hcm1, hpc1, hb1, zs1, hbs1⟩ := open_bs Tryz.underlying32 Tryz.underlying5 (by kernel_rfl) t1
  obtain ⟨a2, len2, cap2, rfl⟩ := okWide_slice Tryz.underlying25 (hval 2 25 v2 rfl rfl)
  obtain ⟨fuel2, t2⟩ := t2
  obtain ⟨L2, hg2, hf2, hz2⟩ := open_calls (by show Rows.uptoBulk d2 ≤ 1048576; omega) t2
  have hz2' : len2 * 6 + 1 ≤ Rows.uptoBulk d2 := hz2
  have hk' := of_decide_eq_true hk
  simp only [Rows.uptoBulkAll, List.append_nil, hb1] at hk'
  refine (diskLasts_walk  a0 len0 cap0 L0 a1 len1 cap1 zs1 a2 len2 cap2 L2 W hg0 hf0 hbs1 hpc1 hlc1 (by omega) hg2 hf2 (by omega)).mono fun e W' ⟨he, hb⟩ => ?_
  subst he
  exact ⟨_, rfl, law_post laidOut (by kernel_rfl) rfl Tryz.underlying4 rfl hW' rfl rfl rfl hb⟩

set_option maxRecDepth 100000 in
theorem diskLasts_lifted (os : Os) (started : os.Started) (H : Type) (enc : TypeId × Value → H) (F : Stop.Interp) :
    ReturnsInHanded {} Tryz.checked os 4 .any ((Rows.OpenSpec.upto Rows.diskLastsSpec).pre6 enc Tryz.prog Tryz.f4 Rows.diskLastsUptoRow.domain false) (((Rows.OpenSpec.upto Rows.diskLastsSpec).at F).post enc Tryz.prog Tryz.f4 false true false false) := by
  refine returnsInHanded_of_cond (C := Tryz.checked) (s := Rows.OpenSpec.upto Rows.diskLastsSpec) (k := Rows.uptoSmall) rfl own started (by kernel_rfl) Tryz.func4
    (OpenSpec.witness (enc := enc) (C := Tryz.checked) (s := Rows.OpenSpec.upto Rows.diskLastsSpec) (k := Rows.uptoSmall) rfl false ⟨#[], #[.slice none 0 0, .slice none 0 0, .slice none 0 0], []⟩ 8 (by kernel_rfl) (by kernel_rfl) (by kernel_rfl)
      (x := ([.nil, .nil, .nil], [], [])) (by kernel_rfl) rfl (by kernel_rfl)) ?_
  intro W base args ds gs before hval hW _ hk _
  exact diskLasts_contract H enc W base args ds gs before hval hW hk

theorem diskLastsUpto_holds : Rows.DiskLastsUptoSaid :=
  OpenClaim.holds_of_cond 4 Tryz.f4 rfl rfl rfl rfl rfl rfl rfl ⟨rfl, rfl, rfl, rfl, rfl⟩ rfl rfl rfl rfl rfl (by kernel_rfl) Tryz.func4 (by kernel_rfl)
    (of_decide_eq_true (by kernel_rfl)) (by unfold Func.isWrapper; first | (rw [if_pos (by decide +kernel)]; kernel_rfl) | (rw [if_neg (by decide +kernel)]; exact ⟨rfl, rfl⟩))
    (fun os started H enc _ F => diskLasts_lifted os started H enc F)
end Go.Proofs.YtbjfbecpagdoeaaGreat
