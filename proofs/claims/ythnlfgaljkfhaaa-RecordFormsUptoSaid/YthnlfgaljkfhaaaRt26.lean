/- Layer 14, the law: what it wants of package record; lives; Layer 14, the law: RecordParses, RecordForms, under what is said of package record; Layer 14, the law: RecordMakes, under what is said of package record; Layer 14, the law: RecordBack, under what is said of package record; Layer 14, the program: Right; Layer 14, the program: Make, Size; Layer 14, the program: Word -/
import Derived.Test.YthnlfgaljkfhaaaRt11
import Derived.Test.YthnlfgaljkfhaaaRt12
import Derived.Test.YthnlfgaljkfhaaaRt19
import Derived.Test.YthnlfgaljkfhaaaRt23
import Derived.Test.YthnlfgaljkfhaaaRt24
import Derived.Test.YthnlfgaljkfhaaaRt25
set_option linter.unusedSimpArgs false
set_option linter.unusedVariables false
namespace Go.Proofs.Ythnlfgaljkfhaaa
set_option linter.unusedVariables false
open Go.RowKit Go.Lib

theorem bare_right {r : Rc} (h : rightN r = 0) : rightN (bareN r) = 0 := by
  have hk := rightN_k h
  obtain ⟨k, s, dg, nm, da, n, z⟩ := r
  dsimp only at hk
  unfold bareN
  dsimp only
  rcases kinds (k := k) with h1 | h1 | rfl | rfl | rfl | rfl | rfl | rfl | rfl | rfl
  · omega
  · omega
  all_goals (unfold rightN at h ⊢; dsimp only at h ⊢; simp at h ⊢; try simpa using h)
theorem bare_bare (r : Rc) : bareN { bareN r with s := r.s } = bareN r := by
  unfold bareN
  simp only [Rc.mk.injEq, true_and]
  refine ⟨?_, ?_, ?_, ?_, ?_⟩ <;> (split <;> simp_all)
/-- a record that was made is read -/
theorem rp_made {r : Rc} (hr : r.Ok) (h : rightN r = 0) (hs : 0 ≤ r.s ∧ r.s < 18446744073709551616) : rpE (makeN r) 0 = 0 ∧ rpR (makeN r) 0 = bareN r ∧ rpN (makeN r) 0 = (makeN r).length := by
  have hk := rightN_k h
  have hl := dataN_len hr h
  have hp := ps_made [] [] (dataN r) r.k r.s 0 (dataN r).length rfl rfl hk.1 hk.2 hl hs.1 hs.2
  rw [List.nil_append, List.append_nil] at hp
  have hm : makeN r = frmN r.k r.s (dataN r) := by unfold makeN; rw [if_pos h]
  have hb := rec_back hr h
  have hE : rpE (makeN r) 0 = 0 := by
    unfold rpE
    rw [hm, show (0 : Int) = ((0 : Nat) : Int) from rfl, hp.1, hp.2]
    simp only [ne_eq, not_true, if_false, hb]
    rw [rightN_s]
    exact bare_right h
  refine ⟨hE, ?_, ?_⟩
  · unfold rpR
    rw [if_pos hE, hm, show (0 : Int) = ((0 : Nat) : Int) from rfl, hp.2]
    simp only [hb]
    rfl
  · unfold rpN
    rw [if_pos hE, hm, show (0 : Int) = ((0 : Nat) : Int) from rfl, hp.2, frmN_length]
    dsimp only
    omega
theorem makeN_length {r : Rc} (hr : r.Ok) : (makeN r).length ≤ 65557 := by
  unfold makeN
  split
  · rename_i h
    have := dataN_len hr h
    rw [frmN_length]; omega
  · simp

/-- what the statements want of package record -/
def cRightOk : Prop := ∀ (x : Rq) (w : World), x.Fit w → x.n ≤ 2097152 → Calls Try.prog 10 #[x.v] w fun e w' => e = .returned (.int .i64 (rightN x.rc)) ∧ Below w.heap.size w w'
def cMakeOk : Prop := ∀ (x : Rq) (w : World), x.Fit w → x.n ≤ 2097152 → Calls Try.prog 7 #[x.v] w fun e w' => ∃ v, e = .returned (.tuple #[v, .int .i64 (rightN x.rc)]) ∧ Ob w' w.heap.size 5 v (makeN x.rc) ∧ Below w.heap.size w w'
def cSizeOk : Prop := ∀ (x : Rq) (w : World), x.Fit w → x.n ≤ 2097152 → Calls Try.prog 12 #[x.v] w fun e w' => e = .returned (.int .i64 ((makeN x.rc).length : Int)) ∧ Below w.heap.size w w'
def cParseOk : Prop := ∀ (p : Option Addr) (len cap : Nat) (zs : List Int) (a : Int) (w : World), Bs w p len zs → (p = none → cap = 0) → len ≤ cap → cap ≤ maxLen → len ≤ 2097152 → (-9223372036854775808 ≤ a ∧ a ≤ 9223372036854775807) →
    Calls Try.prog 16 #[.slice p len cap, .int .i64 a] w fun e w' => RpQ w zs a e w'
def cWordOk : Prop := ∀ (x : Rq) (seg off len : Int) (w : World), x.Fit w → x.n ≤ 2097152 → Calls Try.prog 13 #[x.v, locV seg off len] w fun e w' => e = .returned (wordQ x seg off len).v ∧ Below w.heap.size w w'

theorem wordQ_ok {x : Rq} {w : World} (h : x.Fit w) (hn : x.n ≤ 2097152) {seg off len : Int} (h1 : -9223372036854775808 ≤ seg ∧ seg ≤ 9223372036854775807) (h2 : -9223372036854775808 ≤ off ∧ off ≤ 9223372036854775807) (h3 : -9223372036854775808 ≤ len ∧ len ≤ 9223372036854775807) : (wordQ x seg off len).Ok := by
  have hz : (0 : Nat) ≤ maxLen := Nat.zero_le _
  have hnm : x.nm.size ≤ maxLen := Nat.le_trans h.nm (by unfold maxLen; omega)
  have hZ := h.Z
  unfold wordQ
  split
  · exact ⟨h.k, h.s, dok_zero, hz, i64_zero, h1, h2, h3⟩
  · refine ⟨h.k, h.s, ?_, ?_, ?_, h1, h2, h3⟩
    · dsimp only; split
      · exact h.dg
      · exact dok_zero
    · dsimp only; split
      · exact hnm
      · exact hz
    · dsimp only; split
      · omega
      · split <;> omega

def dgL : List Int := 5 :: List.replicate 31 0
def xL : Rq := ⟨3, 9, dgL, ⟨#[118, 49]⟩, none, 0, 0, [], 0, 0⟩
theorem dgL_ok : dok dgL := ⟨rfl, fun j => by
  cases j with
  | zero => simp [dgL]
  | succ j =>
    have h := bytes_replicate 31 j
    simpa [dgL] using h⟩
theorem xL_fit (w : World) : xL.Fit w := ⟨Bs.empty _ _, fun _ => rfl, Nat.le_refl _, Nat.zero_le _, dgL_ok, by decide, by decide, by decide, by decide, by decide⟩
theorem xL_nums : numsOf xL.nm = [118, 49] := rfl
theorem xL_right : rightN xL.rc = 0 := by
  have ht : tagP [118, 49] = true := by decide
  unfold rightN Rq.rc
  rw [xL_nums, ht]
  simp [xL]
theorem xL_bare : bareN xL.rc = xL.rc := by
  unfold bareN Rq.rc
  rw [xL_nums]
  simp [xL]
theorem xL_len : (makeN xL.rc).length = 56 := by
  unfold makeN
  rw [if_pos xL_right, frmN_length]
  unfold dataN Rq.rc
  rw [xL_nums]
  simp [xL, dgL]
theorem xL_parse : rpE (makeN xL.rc) 0 = 0 ∧ rpR (makeN xL.rc) 0 = xL.rc ∧ rpN (makeN xL.rc) 0 = 56 := by
  have h := rp_made (xL_fit default).ok xL_right (xL_fit default).s
  rw [xL_bare, xL_len] at h
  exact h

set_option maxRecDepth 100000 in
set_option maxHeartbeats 2000000 in
theorem lives14_any (hM : cMakeOk) (hP : cParseOk) (w : World) : Calls Try.prog 15 #[] w fun e w' => e = .returned (.bool true) ∧ Below w.heap.size w w' := by
  have HM := Lib.hid fun W => hM xL W (xL_fit W) (Nat.zero_le _)
  have HPX := Lib.hid xL_parse
  have HXL := Lib.hid xL_len
  have HXR := Lib.hid xL_right
  obtain ⟨F, hF⟩ : ∃ F, makeN xL.rc = F := ⟨_, rfl⟩
  rw [hF] at HM HPX HXL
  rw [xL_right] at HM
  unfold Rq.v at HM
  have HPA := Lib.hid fun (p : Option Addr) (cap : Nat) W (hW : Bs W p 56 F) (h1 : p = none → cap = 0) (h2 : 56 ≤ cap) (h3 : cap ≤ maxLen) => hP p 56 cap F 0 W hW h1 h2 h3 (by omega) (by omega)
  have HZ0 : Hid (∀ W : World, (W.alloc (.cells (mixC rq0.a rq0.dg rq0.z) 27)).heap[W.heap.size]? = some (.cells (mixC rq0.a rq0.dg rq0.z) 27 (0, 0))) := Lib.hid fun W => heap_alloc_new W _
  clear hF
  go_enter Try.func15, Try.ntmps15
  go_upto_region 2 with (first
    | (refine wpList_build_is rfl 24 _ rfl (bcs dgL) ?_ ?_; kernel_rfl)
    | (refine wpList_build_is rfl 27 _ rfl (mixC xL.a xL.dg xL.z) ?_ ?_; kernel_rfl)
    | (refine wpList_store_row rfl 27 _ _ rfl w.heap.size _ rfl rfl 27 _ (heap_alloc_new _ _) (Rq.sizeOf xL rfl) (Rq.sizes rq0 xL rfl rfl) xL.one ?_; generalize hwA : World.setRow _ _ _ = wA))
  have HA : Hid (Rm wA w.heap.size xL) := Lib.hid (by rw [← hwA]; exact Mx.row (show Rm (w.alloc (.cells (mixC rq0.a rq0.dg rq0.z) 27)) w.heap.size rq0 from heap_alloc_new _ _))
  have HBA : Hid (Below w.heap.size w wA) := Lib.hid (by rw [← hwA]; exact below_setRow8 ((Below.refl _ _).alloc (Nat.le_refl _) _) _ _ (Nat.le_refl _))
  have HSA : Hid (w.heap.size < wA.heap.size) := Lib.hid (Mx.lt HA.out)
  clear hwA
  go_upto_region 4 with (first
    | (refine wpList_ld rfl _ _ rfl _ rfl _ (HA.out.load rfl) ?_)
    | (go_at_call 7; refine (HM.out _).mono ?_; rintro e w1 ⟨v1, rfl, ho1, hb1⟩; obtain ⟨p1, c1, hv1, hlc1, hcm1, hbs1, hpc1⟩ := ho1.open; rw [HXL.out] at hv1 hlc1 hbs1; subst hv1; have HB1 := Lib.hid hb1; have HS1 := Lib.hid hbs1; have HC1 := Lib.hid (And.intro hpc1 (And.intro hlc1 hcm1)); clear ho1 hb1 hbs1 hpc1 hlc1 hcm1)
    | (go_at_call 16; refine (HPA.out p1 c1 _ HS1.out HC1.out.1 HC1.out.2.1 HC1.out.2.2).mono ?_; rintro e w2 ⟨y, rfl, hf2, hy2, hb2⟩; rw [HPX.out.1, HPX.out.2.2]; have HF2 := Lib.hid hf2; have HY2 : Hid (y.rc = xL.rc) := Lib.hid (hy2.trans HPX.out.2.1); have HB2 := Lib.hid (below_step HB1.out hb2); clear hf2 hy2 hb2)
    | (refine wpList_store_row rfl 27 _ _ rfl w2.heap.size _ rfl rfl 27 _ (heap_alloc_new _ _) (Rq.sizeOf y HF2.out.dg.1) (Rq.sizes rq0 y rfl HF2.out.dg.1) y.one ?_; generalize hw3 : World.setRow _ _ _ = w3))
  have HY3 : Hid (Rm w3 w2.heap.size y) := Lib.hid (by rw [← hw3]; exact Mx.row (show Rm (w2.alloc (.cells (mixC rq0.a rq0.dg rq0.z) 27)) w2.heap.size rq0 from heap_alloc_new _ _))
  have HK3 : Hid (∀ g, g < w2.heap.size → w3.heap[g]? = w2.heap[g]?) := Lib.hid fun g hg => (keep_row hw3 g (by omega)).trans (heap_alloc_old w2 _ hg)
  have HB3 : Hid (Below wA.heap.size wA w3) := Lib.hid (by rw [← hw3]; exact below_setRow8 (HB2.out.alloc HB2.out.size _) _ _ HB2.out.size)
  have HX3 : Hid (Rm w3 w.heap.size xL) := Lib.hid (HA.out.later HB3.out)
  have HFX := Lib.hid (xL_fit w3)
  have HDA : Hid (y.n = 0) := Lib.hid (by
    have h1 := congrArg Rc.da HY2.out
    have h2 := HF2.out.bs.len
    rw [← h2, show y.da = [] from h1]
    rfl)
  have HFY : Hid (y.Fit w3) := Lib.hid ⟨by
    have h1 : y.da = [] := congrArg Rc.da HY2.out
    rw [h1, HDA.out]
    exact Bs.empty _ _, HF2.out.pc, HF2.out.nc, HF2.out.cm, HF2.out.dg, HF2.out.nm, HF2.out.s, HF2.out.k, HF2.out.N, HF2.out.Z⟩
  have HSM := Lib.hid (rsame14_any xL y w3 HFX.out HFY.out HY2.out.symm (Nat.zero_le _))
  unfold Rq.v at HSM
  clear hw3
  go_wp2_with (first
    | (refine wpList_wanted (by rfl) fun K hK => wp_ld 27 _ rfl _ rfl _ (HX3.out.load rfl) (hK _ _ ?_); clear hK K)
    | (refine wpList_wanted (by rfl) fun K hK => wp_ld 27 _ rfl _ rfl _ (HY3.out.load HFY.out.dg.1) (hK _ _ ?_); clear hK K)
    | (go_at_call 18; refine HSM.out.mono ?_; rintro e w4 ⟨rfl, hb4⟩; have HB4 := Lib.hid (below_step HB3.out hb4); clear hb4))
  go_ret
  exact ⟨rfl, below_step HBA.out HB4.out⟩
end Go.Proofs.Ythnlfgaljkfhaaa

namespace Go.Proofs.Ythnlfgaljkfhaaa
set_option linter.unusedVariables false
open Go.RowKit Go.Lib

/-- a record that is stored anew -/
theorem put_rec (W : World) (y : Rq) {w3 : World} (h : (W.alloc (.cells (mixC rq0.a rq0.dg rq0.z) 27)).setRow W.heap.size (mixC y.a y.dg y.z) = w3) : Rm w3 W.heap.size y ∧ Below W.heap.size W w3 ∧ w3.heap.size = W.heap.size + 1 := by
  subst h
  exact ⟨Mx.row (show Rm (W.alloc (.cells (mixC rq0.a rq0.dg rq0.z) 27)) W.heap.size rq0 from heap_alloc_new _ _), below_setRow8 ((Below.refl _ _).alloc (Nat.le_refl _) _) _ _ (Nat.le_refl _), by simp⟩

set_option maxRecDepth 100000 in
set_option maxHeartbeats 2000000 in
theorem recparses_any (hM : cMakeOk) (hP : cParseOk) (p : Option Addr) (len cap : Nat) (zs : List Int) (a : Int) (w : World) (h : Bs w p len zs) (hpc : p = none → cap = 0) (hlc : len ≤ cap) (hcm : cap ≤ maxLen) (hlen : len ≤ 2097152) (ha : -9223372036854775808 ≤ a ∧ a ≤ 9223372036854775807) :
    Calls Try.prog 4 #[.slice p len cap, .int .i64 a] w fun e w' => e = .returned (.bool true) ∧ Below w.heap.size w w' := by
  have HP := Lib.hid (hP p len cap zs a w h hpc hlc hcm hlen ha)
  have HQ := Lib.hid fun W (hW : Below w.heap.size w W) => rparse14_any p len cap zs a W (h.later hW) hpc hlc hcm hlen ha
  have HLV := Lib.hid fun W => lives14_any hM hP W
  unfold RpQ at HP HQ
  generalize rpN zs a = EN at *
  generalize rpE zs a = E at *
  generalize rpR zs a = RR at *
  clear h hpc hlc hcm hlen
  go_enter Try.func4, Try.ntmps4
  go_upto_region 2 with (first
    | (go_at_call 16; refine HP.out.mono ?_; rintro e w1 ⟨y, rfl, hf1, hy1, hb1⟩; have HF1 := Lib.hid hf1; have HY1 := Lib.hid hy1; have HB1 := Lib.hid hb1; clear hf1 hy1 hb1)
    | (refine wpList_store_row rfl 27 _ _ rfl w1.heap.size _ rfl rfl 27 _ (heap_alloc_new _ _) (Rq.sizeOf y HF1.out.dg.1) (Rq.sizes rq0 y rfl HF1.out.dg.1) y.one ?_; generalize hw2 : World.setRow _ _ _ = w2))
  have HW2 := Lib.hid (put_rec w1 y hw2)
  have HB2 := Lib.hid (below_step HB1.out HW2.out.2.1)
  clear hw2
  go_upto_region 3 with (first
    | (go_at_call 17; refine (HQ.out _ HB2.out).mono ?_; rintro e w3 ⟨z, rfl, hf3, hy3, hb3⟩; have HF3 := Lib.hid hf3; have HY3 := Lib.hid hy3; have HB3 := Lib.hid hb3; clear hf3 hy3 hb3)
    | (refine wpList_store_row rfl 27 _ _ rfl w3.heap.size _ rfl rfl 27 _ (heap_alloc_new _ _) (Rq.sizeOf z HF3.out.dg.1) (Rq.sizes rq0 z rfl HF3.out.dg.1) z.one ?_; generalize hw4 : World.setRow _ _ _ = w4))
  have HW4 := Lib.hid (put_rec w3 z hw4)
  have HB4 := Lib.hid (below_step (below_step HB2.out HB3.out) HW4.out.2.1)
  clear hw4
  have HYa : Hid (Rm w4 w1.heap.size y) := Lib.hid ((HW2.out.1.later HB3.out).later HW4.out.2.1)
  have HFa : Hid (y.Fit w4) := Lib.hid (((HF1.out.later HW2.out.2.1).later HB3.out).later HW4.out.2.1)
  have HFb : Hid (z.Fit w4) := Lib.hid (HF3.out.later HW4.out.2.1)
  have HSM := Lib.hid (rsame14_any y z w4 HFa.out HFb.out (HY1.out.trans HY3.out.symm) (Nat.le_trans HFa.out.nc HFa.out.cm))
  unfold Rq.v at HSM
  go_wp2_with (first
    | (refine wpList_ld rfl _ _ rfl _ rfl _ (HYa.out.load HFa.out.dg.1) ?_)
    | (refine wpList_ld rfl _ _ rfl _ rfl _ (HW4.out.1.load HFb.out.dg.1) ?_)
    | (go_at_call 18; refine HSM.out.mono ?_; rintro e w5 ⟨rfl, hb5⟩; have HB5 := Lib.hid (below_step HB4.out hb5); clear hb5)
    | (go_at_call 15; refine (HLV.out _).mono ?_; rintro e w6 ⟨rfl, hb6⟩; have HB6 := Lib.hid (below_step HB5.out hb6); clear hb6))
  go_ret
  exact ⟨rfl, HB6.out⟩

set_option maxRecDepth 100000 in
theorem recforms_any (hM : cMakeOk) (hP : cParseOk) (k s : Int) (p : Option Addr) (n c : Nat) (zs : List Int) (w : World) (h : Bs w p n zs) (hpc : p = none → c = 0) (hn : n ≤ 1048576) (hs : 0 ≤ s ∧ s < 18446744073709551616) :
    Calls Try.prog 5 #[.int .i64 k, .int .u64 s, .slice p n c] w fun e w' => e = .returned (.bool true) ∧ Below w.heap.size w w' := by
  have HMK := Lib.hid (rmake_any k s p n c zs w h hpc hn hs)
  obtain ⟨F, hF⟩ : ∃ F, frmN k s zs = F := ⟨_, rfl⟩
  have HFL : Hid (F.length = n + 21) := Lib.hid (by rw [← hF, frmN_length, h.len])
  rw [hF] at HMK
  have HPR := Lib.hid fun (q : Option Addr) (m d : Nat) W (hW : Bs W q m F) (h1 : q = none → d = 0) (h2 : m ≤ d) (h3 : d ≤ maxLen) (h4 : m ≤ 2097152) => recparses_any hM hP q m d F 0 W hW h1 h2 h3 h4 (by omega)
  clear h hpc hF
  go_enter Try.func5, Try.ntmps5
  go_wp2_with (first
    | (go_at_call 19; refine HMK.out.mono ?_; rintro e w1 ⟨v1, rfl, ho1, hb1⟩; obtain ⟨p1, c1, hv1, hlc1, hcm1, hbs1, hpc1⟩ := ho1.open; rw [HFL.out] at hv1 hlc1 hbs1; subst hv1; have HB1 := Lib.hid hb1; have HS1 := Lib.hid hbs1; have HC1 := Lib.hid (And.intro hpc1 (And.intro hlc1 hcm1)); clear ho1 hb1 hbs1 hpc1 hlc1 hcm1)
    | (go_at_call 4; refine (HPR.out p1 (n + 21) c1 _ HS1.out HC1.out.1 HC1.out.2.1 HC1.out.2.2 (by omega)).mono ?_; rintro e w2 ⟨rfl, hb2⟩; have HB2 := Lib.hid (below_step HB1.out hb2); clear hb2))
  go_ret
  exact ⟨rfl, HB2.out⟩
end Go.Proofs.Ythnlfgaljkfhaaa

namespace Go.Proofs.Ythnlfgaljkfhaaa
set_option linter.unusedVariables false
open Go.RowKit Go.Lib

set_option maxRecDepth 100000 in
set_option maxHeartbeats 2000000 in
theorem recmakes_any (hR : cRightOk) (hM : cMakeOk) (hS : cSizeOk) (hP : cParseOk) (hW' : cWordOk) (x : Rq) (seg off len : Int) (w : World) (hx : x.Fit w) (hn : x.n ≤ 1048576)
    (h1 : -9223372036854775808 ≤ seg ∧ seg ≤ 9223372036854775807) (h2 : -9223372036854775808 ≤ off ∧ off ≤ 9223372036854775807) (h3 : -9223372036854775808 ≤ len ∧ len ≤ 9223372036854775807) :
    Calls Try.prog 3 #[x.v, locV seg off len] w fun e w' => e = .returned (.bool true) ∧ Below w.heap.size w w' := by
  obtain ⟨wA, hA, hm, hb, _⟩ := box_rec w x hx.dg.1
  obtain ⟨wB, hB⟩ : ∃ W, wA.alloc (.cells #[.int .i64 seg, .int .i64 off, .int .i64 len] 29) = W := ⟨_, rfl⟩
  have hbB : Below wA.heap.size wA wB := by rw [← hB]; exact (Below.refl _ _).alloc (Nat.le_refl _) _
  have hrB : wB.heap[wA.heap.size]? = some (.cells #[.int .i64 seg, .int .i64 off, .int .i64 len] 29 (0, 0)) := by rw [← hB]; exact heap_alloc_new _ _
  obtain ⟨g1, hg1⟩ : ∃ g, wA.heap.size = g := ⟨_, rfl⟩
  rw [hg1] at hrB
  have HRB : Hid (Rm wB w.heap.size x) := Lib.hid (hm.later hbB)
  have HBB : Hid (Below w.heap.size w wB) := Lib.hid (below_step hb hbB)
  have HLB := Lib.hid fun W (hW : Below wB.heap.size wB W) => (HRB.out.later hW).load hx.dg.1
  have HCB := Lib.hid fun W (hW : Below wB.heap.size wB W) => row3 (row_later hrB hW)
  have HX := Lib.hid fun W (hW : Below wB.heap.size wB W) => hx.later (below_step HBB.out hW)
  have HN : Hid (x.n ≤ 2097152) := Lib.hid (by omega)
  have HNC := Lib.hid (Nat.le_trans hx.nc hx.cm)
  have HOK := Lib.hid (wordQ_ok hx HN.out h1 h2 h3)
  have HML := Lib.hid (makeN_length hx.ok)
  have HMK := Lib.hid (hM x wB (HX.out _ (Below.refl _ _)) HN.out)
  have HRM := Lib.hid fun W hW => rmake14_any x W (HX.out W hW)
  have HSZ := Lib.hid fun W hW => hS x W (HX.out W hW) HN.out
  have HRI := Lib.hid fun W hW => hR x W (HX.out W hW) HN.out
  have HRR := Lib.hid fun W hW => rright_any x W (HX.out W hW).dg.1 (HX.out W hW).bs.len (HX.out W hW).nm
  have HWD := Lib.hid fun W hW => hW' x seg off len W (HX.out W hW) HN.out
  have HRW := Lib.hid fun W hW => rword_any x seg off len W (HX.out W hW) (by have := HN.out; omega)
  have HLV := Lib.hid fun W => lives14_any hM hP W
  have heq := word_eq HOK.out
  generalize wordQ x seg off len = Q at *
  generalize makeN x.rc = F at *
  generalize rightN x.rc = R at *
  obtain ⟨L, hL⟩ : ∃ L, F.length = L := ⟨_, rfl⟩
  have HFL := Lib.hid hL
  rw [hL] at HML HSZ
  have hlm : L ≤ maxLen := by unfold maxLen; have := HML.out; omega
  unfold Rq.v Wq.v at *
  unfold locV at *
  generalize hMM : mixC x.a x.dg x.z = M at *
  generalize hQQ : mixC Q.a Q.dg Q.t = MQ at *
  clear hMM hQQ hx hm hb hbB hrB hn h1 h2 h3 hR hM hS hP hW' hL
  go_enter Try.func3, Try.ntmps3
  go_upto_region 3 with (first
    | (refine wpList_ld rfl _ _ rfl _ rfl _ (HLB.out _ (Below.refl _ _)) ?_)
    | (refine wpList_ld rfl _ _ rfl _ rfl _ (HLB.out _ HB1.out) ?_)
    | (go_at_call 7; refine HMK.out.mono ?_; rintro e w1 ⟨v1, rfl, ho1, hb1⟩; obtain ⟨p1, c1, hv1, _, _, hbs1, _⟩ := ho1.open; rw [HFL.out] at hv1 hbs1; subst hv1; have HB1 := Lib.hid hb1; have HS1 := Lib.hid hbs1; clear ho1 hb1 hbs1)
    | (go_at_call 8; refine (HRM.out _ HB1.out).mono ?_; rintro e w2 ⟨v2, rfl, ho2, hb2⟩; obtain ⟨p2, c2, hv2, _, _, hbs2, _⟩ := ho2.open; rw [HFL.out] at hv2 hbs2; subst hv2; have HB2 := Lib.hid (below_step HB1.out hb2); have HS1 := Lib.hid (HS1.out.later hb2); have HS2 := Lib.hid hbs2; clear ho2 hb2 hbs2))
  have HU := Lib.hid fun (U : Fut w2.heap.size w2) => below_step HB2.out U.le
  have HLU := Lib.hid fun (W : World) (h : ∃ U : Fut w2.heap.size w2, W = U.W) => (by obtain ⟨U, rfl⟩ := h; exact HLB.out _ (HU.out U) : (Instr.loadAt 27 (.pointer (some ⟨w.heap.size, 0, none⟩))).run Try.prog W = .ok (.agg M) W)
  have hc0 := fun (U : Fut w2.heap.size w2) => (HCB.out _ (HU.out U)).1
  have hc1 := fun (U : Fut w2.heap.size w2) => (HCB.out _ (HU.out U)).2.1
  have hc2 := fun (U : Fut w2.heap.size w2) => (HCB.out _ (HU.out U)).2.2.1
  have CS := Lib.hid fun (U : Fut w2.heap.size w2) => (by
    have h := same_any p1 p2 L L c1 c2 F F U.W hlm hlm (HS1.out.later U.le) (HS2.out.later U.le)
    rw [decide_eq_true (rfl : F = F)] at h
    exact Calls.fut_drew h : Calls Try.prog 9 #[.slice p1 L c1, .slice p2 L c2] U.W fun e w' => e = .returned (.bool true) ∧ ∃ V : Fut w2.heap.size w2, w' = V.W)
  have CR := Lib.hid fun (U : Fut w2.heap.size w2) => Calls.fut (Nat.le_refl _) (HRI.out U.W (HU.out U))
  have CQ := Lib.hid fun (U : Fut w2.heap.size w2) => Calls.fut (Nat.le_refl _) (HRR.out U.W (HU.out U))
  have CZ := Lib.hid fun (U : Fut w2.heap.size w2) => Calls.fut (Nat.le_refl _) (HSZ.out U.W (HU.out U))
  have CW := Lib.hid fun (U : Fut w2.heap.size w2) => Calls.fut (Nat.le_refl _) (HWD.out U.W (HU.out U))
  have CX := Lib.hid fun (U : Fut w2.heap.size w2) => Calls.fut (Nat.le_refl _) (HRW.out U.W (HU.out U))
  have CL := Lib.hid fun (U : Fut w2.heap.size w2) => Calls.fut (B := w2.heap.size) (w := w2) (U := U) (Nat.le_refl _) (HLV.out U.W)
  refine wp_region_quiet_fut w2.heap.size (by kernel_rfl) (by kernel_rfl) ?_
  repeat (first
    | (refine qwant (by rfl) fun K hK => qload 27 _ rfl _ rfl _ HLU.out (hK _ ?_); clear hK K)
    | (quiet_step (first
      | (go_at_call 9; exact CS.out _)
      | (go_at_call 10; exact CR.out _)
      | (go_at_call 11; exact CQ.out _)
      | (go_at_call 12; exact CZ.out _)
      | (go_at_call 13; exact CW.out _)
      | (go_at_call 14; exact CX.out _)
      | (go_at_call 15; exact CL.out _))))

  refine wpQuiet_nil ?_
  intro _ hw'
  obtain ⟨U, hw''⟩ := hw'
  subst hw''
  go_wp2
  go_ret
  exact ⟨rfl, below_step HBB.out (HU.out U)⟩
end Go.Proofs.Ythnlfgaljkfhaaa

namespace Go.Proofs.Ythnlfgaljkfhaaa
set_option linter.unusedVariables false
open Go.RowKit Go.Lib

/-- what was read has the frame that was read -/
theorem rp_forth {zs : List Int} (hz : Byt zs) {a : Int} (h : rpE zs a = 0) :
    ∃ (m e : Nat), a = (m : Int) ∧ rpN zs a = (e : Int) ∧ m ≤ e ∧ e ≤ zs.length ∧ rightN (rpR zs a) = 0 ∧ makeN (rpR zs a) = (zs.drop m).take (e - m) := by
  have hR : rpR zs a = match readN (psF zs a).k (psF zs a).d with
    | none => rc0
    | some r => { r with s := (psF zs a).s } := by unfold rpR; rw [if_pos h]; cases readN (psF zs a).k (psF zs a).d <;> rfl
  have hN : rpN zs a = (psF zs a).e := by unfold rpN; rw [if_pos h]
  unfold rpE at h
  by_cases hE : psE zs a = 0
  · simp only [hE, ne_eq, not_true, if_false] at h
    obtain ⟨m, n, hm, hmn, _, hdn, hk, hs, hdb, he, hf⟩ := ps_of hz hE
    cases hr : readN (psF zs a).k (psF zs a).d with
    | none => rw [hr] at h; simp at h
    | some r =>
      rw [hr] at h hR
      dsimp only at h hR
      obtain ⟨h1, h2, h3, _, _⟩ := rec_forth hdb hk hr h
      refine ⟨m, m + 21 + n, hm, by rw [hN, he]; omega, by omega, by omega, by rw [hR, rightN_s]; exact h, ?_⟩
      rw [hR]
      unfold makeN
      rw [rightN_s, if_pos h]
      dsimp only
      rw [show dataN { r with s := (psF zs a).s } = dataN r from rfl, h1, h2, hf, show m + 21 + n - m = n + 21 by omega]
  · rw [if_pos hE] at h
    exact absurd h hE
theorem rpR_da {zs : List Int} (hz : Byt zs) {a : Int} (h : rpE zs a = 0) : (rpR zs a).da.length ≤ zs.length := by
  have hR : rpR zs a = match readN (psF zs a).k (psF zs a).d with
    | none => rc0
    | some r => { r with s := (psF zs a).s } := by unfold rpR; rw [if_pos h]; cases readN (psF zs a).k (psF zs a).d <;> rfl
  unfold rpE at h
  by_cases hE : psE zs a = 0
  · simp only [hE, ne_eq, not_true, if_false] at h
    obtain ⟨m, n, hm, hmn, _, hdn, hk, hs, hdb, he, hf⟩ := ps_of hz hE
    cases hr : readN (psF zs a).k (psF zs a).d with
    | none => rw [hr] at h; simp at h
    | some r =>
      rw [hr] at h hR
      dsimp only at h hR
      obtain ⟨h1, h2, h3, h4, _⟩ := rec_forth hdb hk hr h
      rw [hR]
      dsimp only
      have h5 := congrArg List.length h1
      unfold dataN at h5
      have h6 := rightN_k h
      have h7 := congrArg Rc.da h3
      unfold bareN at h7
      dsimp only at h7
      by_cases hk2 : r.k ≤ 2
      · rw [if_pos (by omega), List.length_append] at h5
        omega
      · rw [if_neg hk2] at h7
        rw [← h7]
        simp
  · rw [if_pos hE] at h
    exact absurd h hE
theorem bareQ_fit {x : Rq} {w : World} (h : x.Fit w) : (bareQ x).Fit w := by
  have h0 : (0 : Int) ≤ 0 ∧ (0 : Int) ≤ 0 := by omega
  unfold bareQ
  by_cases hk : x.k ≤ 2
  · simp only [if_pos hk]
    exact ⟨h.bs, h.pc, h.nc, h.cm, by dsimp only; split; exact h.dg; exact dok_zero, by dsimp only; split; exact h.nm; exact Nat.zero_le _, h.s, h.k, by dsimp only; split; exact h.N; exact i64_zero, by dsimp only; split; exact h.Z; exact i64_zero⟩
  · simp only [if_neg hk]
    exact ⟨Bs.empty _ _, fun _ => rfl, Nat.le_refl _, Nat.zero_le _, by dsimp only; split; exact h.dg; exact dok_zero, by dsimp only; split; exact h.nm; exact Nat.zero_le _, h.s, h.k, by dsimp only; split; exact h.N; exact i64_zero, by dsimp only; split; exact h.Z; exact i64_zero⟩
theorem bareQ_rc (x : Rq) : (bareQ x).rc = bareN x.rc := by
  unfold bareQ Rq.rc bareN
  simp only [Rc.mk.injEq, true_and, and_true]
  split <;> rfl

set_option maxRecDepth 100000 in
set_option maxHeartbeats 4000000 in
theorem recback_any (hM : cMakeOk) (hP : cParseOk) (x : Rq) (p : Option Addr) (len cap : Nat) (zs : List Int) (a : Int) (w : World) (hx : x.Fit w) (hn : x.n ≤ 1048576) (h : Bs w p len zs) (hpc : p = none → cap = 0) (hlc : len ≤ cap) (hcap : cap ≤ 1048576) (ha : -9223372036854775808 ≤ a ∧ a ≤ 9223372036854775807) :
    Calls Try.prog 6 #[x.v, .slice p len cap, .int .i64 a] w fun e w' => e = .returned (.bool true) ∧ Below w.heap.size w w' := by
  obtain ⟨wA, hA, hm, hb, _⟩ := box_rec w x hx.dg.1
  have HBA := Lib.hid hb
  have HX := Lib.hid fun W (hW : Below wA.heap.size wA W) => hx.later (below_step HBA.out hW)
  have HLX := Lib.hid fun W (hW : Below wA.heap.size wA W) => (hm.later hW).load hx.dg.1
  have HN : Hid (x.n ≤ 2097152) := Lib.hid (by omega)
  have HMK := Lib.hid (hM x wA (HX.out _ (Below.refl _ _)) HN.out)
  have HML := Lib.hid (makeN_length hx.ok)
  have HRP := Lib.hid fun (hr : rightN x.rc = 0) => rp_made hx.ok hr hx.s
  have HKR := Lib.hid fun (hr : rightN x.rc = 0) => rightN_k hr
  have HPF := Lib.hid fun (p1 : Option Addr) (L c1 : Nat) W (hW : Bs W p1 L (makeN x.rc)) (h1 : p1 = none → c1 = 0) (h2 : L ≤ c1) (h3 : c1 ≤ maxLen) (h4 : L ≤ 2097152) => hP p1 L c1 (makeN x.rc) 0 W hW h1 h2 h3 h4 (by omega)
  have HPB := Lib.hid fun W (hW : Below wA.heap.size wA W) => hP p len cap zs a W (h.later (below_step HBA.out hW)) hpc hlc (by unfold maxLen; omega) (by omega) ha
  have HFO := Lib.hid fun (hr : rpE zs a = 0) => rp_forth h.byte hr
  have HRD0 := Lib.hid fun (hr : rpE zs a = 0) => rpR_da h.byte hr
  have HLEN := Lib.hid h.len
  have HLV := Lib.hid fun W => lives14_any hM hP W
  have HBR := Lib.hid fun (hr : rightN x.rc = 0) W (hW : Below wA.heap.size wA W) => rbareQ_any x W (HX.out W hW) (rightN_k hr)
  have HXN : Hid (x.n ≤ maxLen) := Lib.hid (Nat.le_trans hx.nc hx.cm)
  have H := Lib.hid h
  have HLC := Lib.hid hlc
  have hlen : len ≤ 1048576 := by omega
  unfold RpQ at HPB
  rw [HLEN.out] at HFO HRD0
  have HRD : Hid ((rpR zs a).da.length ≤ 2097152) := Lib.hid (by
    by_cases h0 : rpE zs a = 0
    · have := HRD0.out h0; omega
    · unfold rpR; rw [if_neg h0]; simp [rc0])
  generalize rpR zs a = RR at *
  generalize rpE zs a = E at *
  obtain ⟨EN, hEN⟩ : ∃ n, rpN zs a = n := ⟨_, rfl⟩
  rw [hEN] at HPB HFO
  obtain ⟨F, hF⟩ : ∃ F, makeN x.rc = F := ⟨_, rfl⟩
  rw [hF] at HMK HML HRP HPF
  obtain ⟨R, hR⟩ : ∃ R, rightN x.rc = R := ⟨_, rfl⟩
  rw [hR] at HMK HRP HKR HBR
  obtain ⟨L, hL⟩ : ∃ L, F.length = L := ⟨_, rfl⟩
  have HFL := Lib.hid hL
  rw [hL] at HML HRP
  have hlm : L ≤ 65557 := HML.out
  unfold Rq.v at HMK HBR ⊢
  obtain ⟨M, hMM⟩ : ∃ M, mixC x.a x.dg x.z = M := ⟨_, rfl⟩
  have HMM := Lib.hid hMM
  rw [hMM] at HMK HBR HLX hA ⊢
  clear hMM hx hm hb h hpc hlc hn hF hR hL hEN HRD0
  go_enter Try.func6, Try.ntmps6
  go_upto_region 2 with (first
    | (refine wpList_ld rfl _ _ rfl _ rfl _ (HLX.out _ (Below.refl _ _)) ?_)
    | (go_at_call 7; refine HMK.out.mono ?_; rintro e w1 ⟨v1, rfl, ho1, hb1⟩; obtain ⟨p1, c1, hv1, hlc1, hcm1, hbs1, hpc1⟩ := ho1.open; rw [HFL.out] at hv1 hlc1 hbs1; subst hv1; have HB1 := Lib.hid hb1; have HS1 := Lib.hid hbs1; have HC1 := Lib.hid (And.intro hpc1 (And.intro hlc1 hcm1)); clear ho1 hb1 hbs1 hpc1 hlc1 hcm1))
  by_cases hz : R = 0
  · subst hz
    have HRQ := Lib.hid (HRP.out (by first | rfl | trivial))
    go_upto_region 4 with (first
      | (go_at_call 16; refine (HPF.out p1 L c1 _ HS1.out HC1.out.1 HC1.out.2.1 HC1.out.2.2 (by omega)).mono ?_; rintro e w2 ⟨y, rfl, hf2, hy2, hb2⟩; rw [HRQ.out.1, HRQ.out.2.2]; have HF2 := Lib.hid hf2; have HY2 : Hid (y.rc = bareN x.rc) := Lib.hid (hy2.trans HRQ.out.2.1); have HB2 := Lib.hid (below_step HB1.out hb2); clear hf2 hy2 hb2)
      | (refine wpList_store_row rfl 27 _ _ rfl w2.heap.size _ rfl rfl 27 _ (heap_alloc_new _ _) (Rq.sizeOf y HF2.out.dg.1) (Rq.sizes rq0 y rfl HF2.out.dg.1) y.one ?_; generalize hw3 : World.setRow _ _ _ = w3))
    have HW3 := Lib.hid (put_rec w2 y hw3)
    have HB3 := Lib.hid (below_step HB2.out HW3.out.2.1)
    have HF3 := Lib.hid (HF2.out.later HW3.out.2.1)
    have HK := Lib.hid (HKR.out (by first | rfl | trivial))
    clear hw3
    obtain ⟨My, hMy⟩ : ∃ M, mixC y.a y.dg y.z = M := ⟨_, rfl⟩
    obtain ⟨Mb, hMb⟩ : ∃ M, mixC (bareQ x).a (bareQ x).dg (bareQ x).z = M := ⟨_, rfl⟩
    have HU := Lib.hid fun (U : Fut w3.heap.size w3) => below_step HB3.out U.le
    have HLU := Lib.hid fun (W : World) (h : ∃ U : Fut w3.heap.size w3, W = U.W) => (by obtain ⟨U, rfl⟩ := h; exact HLX.out _ (HU.out U) : (Instr.loadAt 27 (.pointer (some ⟨w.heap.size, 0, none⟩))).run Try.prog W = .ok (.agg M) W)
    have HLY := Lib.hid fun (W : World) (h : ∃ U : Fut w3.heap.size w3, W = U.W) => (by obtain ⟨U, rfl⟩ := h; rw [← hMy]; exact (HW3.out.1.later U.le).load HF3.out.dg.1 : (Instr.loadAt 27 (.pointer (some ⟨w2.heap.size, 0, none⟩))).run Try.prog W = .ok (.agg My) W)
    have CB := Lib.hid fun (U : Fut w3.heap.size w3) => (by
      refine Calls.fut (Nat.le_refl _) ((HBR.out (by first | rfl | trivial) U.W (HU.out U)).mono ?_)
      rintro e w' ⟨q, rfl, _, _, hb, rfl⟩
      exact ⟨by rw [← hMb], hb⟩ : Calls Try.prog 20 #[.agg M] U.W fun e w' => e = .returned (.agg Mb) ∧ ∃ V : Fut w3.heap.size w3, w' = V.W)
    have CS := Lib.hid fun (U : Fut w3.heap.size w3) => (by
      have h1 := rsame14_any y (bareQ x) U.W (HF3.out.later U.le) (bareQ_fit (HX.out U.W (HU.out U))) (HY2.out.trans (bareQ_rc x).symm) (Nat.le_trans HF3.out.nc HF3.out.cm)
      unfold Rq.v at h1
      rw [hMy, hMb] at h1
      exact Calls.fut (Nat.le_refl _) h1 : Calls Try.prog 18 #[.agg My, .agg Mb] U.W fun e w' => e = .returned (.bool true) ∧ ∃ V : Fut w3.heap.size w3, w' = V.W)
    clear hMy hMb
    refine wp_region_quiet_fut w3.heap.size (by kernel_rfl) (by kernel_rfl) ?_
    repeat (first
      | (refine qwant (by rfl) fun K hK => qload 27 _ rfl _ rfl _ HLU.out (hK _ ?_); clear hK K)
      | (refine qwant (by rfl) fun K hK => qload 27 _ rfl _ rfl _ HLY.out (hK _ ?_); clear hK K)
      | (quiet_step (first
        | (go_at_call 20; exact CB.out _)
        | (go_at_call 18; exact CS.out _))))
    refine wpQuiet_nil ?_
    intro _ hw'
    obtain ⟨⟨w4, hb4⟩, hw''⟩ := hw'
    subst hw''
    (try dsimp only)
    have HB4 := Lib.hid (below_step HB3.out hb4)
    clear hb4
    go_upto_region 7 with (first
      | (go_at_call 16; refine (HPB.out _ HB4.out).mono ?_; rintro e w5 ⟨z, rfl, hf5, hz5, hb5⟩; have HF5 := Lib.hid hf5; have HZ5 := Lib.hid hz5; have HB5 := Lib.hid (below_step HB4.out hb5); clear hf5 hz5 hb5)
      | (refine wpList_store_row rfl 27 _ _ rfl w5.heap.size _ rfl rfl 27 _ (heap_alloc_new _ _) (Rq.sizeOf z HF5.out.dg.1) (Rq.sizes rq0 z rfl HF5.out.dg.1) z.one ?_; generalize hw6 : World.setRow _ _ _ = w6))
    have HW6 := Lib.hid (put_rec w5 z hw6)
    have HB6 := Lib.hid (below_step HB5.out HW6.out.2.1)
    have HF6 := Lib.hid (HF5.out.later HW6.out.2.1)
    clear hw6
    by_cases hE : E = 0
    · subst hE
      obtain ⟨m, e', hm, hen, hme, hle, hr0, hmk⟩ := HFO.out (by first | rfl | trivial)
      have HL6 := Lib.hid (HW6.out.1.load HF6.out.dg.1)
      have HZN : Hid (z.n ≤ 2097152) := Lib.hid (by rw [← HF6.out.bs.len]; have h1 := congrArg Rc.da HZ5.out; have h2 : z.da = RR.da := h1; rw [h2]; exact HRD.out)
      have HMZ := Lib.hid (hM z w6 HF6.out HZN.out)
      rw [HZ5.out, hr0, hmk] at HMZ
      obtain ⟨q, hsl, hbq, _⟩ := H.out.slice_lh (P := Try.prog) 25 5 Try.underlying25 (fun _ => by kernel_rfl) cap m e' HLC.out hme hle
      have HQ := Lib.hid hbq
      obtain ⟨F2, hF2⟩ : ∃ F, (zs.drop m).take (e' - m) = F := ⟨_, rfl⟩
      rw [hF2] at HMZ HQ
      obtain ⟨e2, he2⟩ : ∃ n, e' - m = n := ⟨_, rfl⟩
      rw [he2] at hsl HQ
      have HFL2 : Hid (F2.length = e2) := Lib.hid HQ.out.len
      have hlm2 : e2 ≤ maxLen := by unfold maxLen; omega
      have hS2 : decide (F2 = F2) = true := by simp
      have HS2 := Lib.hid hS2
      unfold Rq.v at HMZ
      subst hm
      rw [hen]
      clear hbq hF2 he2 hr0 hmk hen hS2
      go_wp2_with (first
        | (refine wpList_ld rfl _ _ rfl _ rfl _ HL6.out ?_)
        | (go_at_call 7; refine HMZ.out.mono ?_; rintro e w7 ⟨v7, rfl, ho7, hb7⟩; obtain ⟨p7, c7, hv7, _, _, hbs7, _⟩ := ho7.open; rw [HFL2.out] at hv7 hbs7; subst hv7; have HB7 := Lib.hid (below_step HB6.out hb7); have HS7 := Lib.hid hbs7; have HQ7 := Lib.hid (HQ.out.later (below_step HBA.out HB7.out)); clear ho7 hb7 hbs7)
        | (go_at_call 9; refine (same_any _ _ e2 e2 _ _ F2 F2 _ hlm2 hlm2 HS7.out HQ7.out).mono ?_; rintro e w8 ⟨rfl, q8, hq8⟩; rw [decide_eq_true (rfl : F2 = F2)]; have HB8 : Hid (Below wA.heap.size wA w8) := Lib.hid (by rw [hq8]; exact below_drewN HB7.out _); clear hq8)
        | (go_at_call 15; refine (HLV.out _).mono ?_; rintro e w9 ⟨rfl, hb9⟩; have HB9 := Lib.hid (below_step HB8.out hb9); clear hb9))
      go_ret
      exact ⟨rfl, below_step HBA.out HB9.out⟩
    · have hne : (E != 0) = true := by simpa using hE
      go_wp2_with (go_at_call 15; refine (HLV.out _).mono ?_; rintro e w9 ⟨rfl, hb9⟩; have HB9 := Lib.hid (below_step HB6.out hb9); clear hb9)
      go_ret
      exact ⟨rfl, below_step HBA.out HB9.out⟩
  · have hne : (R == 0) = false := by simpa using hz
    go_upto_region 7 with (first
      | (go_at_call 16; refine (HPB.out _ HB1.out).mono ?_; rintro e w5 ⟨z, rfl, hf5, hz5, hb5⟩; have HF5 := Lib.hid hf5; have HZ5 := Lib.hid hz5; have HB5 := Lib.hid (below_step HB1.out hb5); clear hf5 hz5 hb5)
      | (refine wpList_store_row rfl 27 _ _ rfl w5.heap.size _ rfl rfl 27 _ (heap_alloc_new _ _) (Rq.sizeOf z HF5.out.dg.1) (Rq.sizes rq0 z rfl HF5.out.dg.1) z.one ?_; generalize hw6 : World.setRow _ _ _ = w6))
    have HW6 := Lib.hid (put_rec w5 z hw6)
    have HB6 := Lib.hid (below_step HB5.out HW6.out.2.1)
    have HF6 := Lib.hid (HF5.out.later HW6.out.2.1)
    clear hw6
    by_cases hE : E = 0
    · subst hE
      obtain ⟨m, e', hm, hen, hme, hle, hr0, hmk⟩ := HFO.out (by first | rfl | trivial)
      have HL6 := Lib.hid (HW6.out.1.load HF6.out.dg.1)
      have HZN : Hid (z.n ≤ 2097152) := Lib.hid (by rw [← HF6.out.bs.len]; have h1 := congrArg Rc.da HZ5.out; have h2 : z.da = RR.da := h1; rw [h2]; exact HRD.out)
      have HMZ := Lib.hid (hM z w6 HF6.out HZN.out)
      rw [HZ5.out, hr0, hmk] at HMZ
      obtain ⟨q, hsl, hbq, _⟩ := H.out.slice_lh (P := Try.prog) 25 5 Try.underlying25 (fun _ => by kernel_rfl) cap m e' HLC.out hme hle
      have HQ := Lib.hid hbq
      obtain ⟨F2, hF2⟩ : ∃ F, (zs.drop m).take (e' - m) = F := ⟨_, rfl⟩
      rw [hF2] at HMZ HQ
      obtain ⟨e2, he2⟩ : ∃ n, e' - m = n := ⟨_, rfl⟩
      rw [he2] at hsl HQ
      have HFL2 : Hid (F2.length = e2) := Lib.hid HQ.out.len
      have hlm2 : e2 ≤ maxLen := by unfold maxLen; omega
      have hS2 : decide (F2 = F2) = true := by simp
      have HS2 := Lib.hid hS2
      unfold Rq.v at HMZ
      subst hm
      rw [hen]
      clear hbq hF2 he2 hr0 hmk hen hS2
      go_wp2_with (first
        | (refine wpList_ld rfl _ _ rfl _ rfl _ HL6.out ?_)
        | (go_at_call 7; refine HMZ.out.mono ?_; rintro e w7 ⟨v7, rfl, ho7, hb7⟩; obtain ⟨p7, c7, hv7, _, _, hbs7, _⟩ := ho7.open; rw [HFL2.out] at hv7 hbs7; subst hv7; have HB7 := Lib.hid (below_step HB6.out hb7); have HS7 := Lib.hid hbs7; have HQ7 := Lib.hid (HQ.out.later (below_step HBA.out HB7.out)); clear ho7 hb7 hbs7)
        | (go_at_call 9; refine (same_any _ _ e2 e2 _ _ F2 F2 _ hlm2 hlm2 HS7.out HQ7.out).mono ?_; rintro e w8 ⟨rfl, q8, hq8⟩; rw [decide_eq_true (rfl : F2 = F2)]; have HB8 : Hid (Below wA.heap.size wA w8) := Lib.hid (by rw [hq8]; exact below_drewN HB7.out _); clear hq8)
        | (go_at_call 15; refine (HLV.out _).mono ?_; rintro e w9 ⟨rfl, hb9⟩; have HB9 := Lib.hid (below_step HB8.out hb9); clear hb9))
      go_ret
      exact ⟨rfl, below_step HBA.out HB9.out⟩
    · have hne : (E != 0) = true := by simpa using hE
      go_wp2_with (go_at_call 15; refine (HLV.out _).mono ?_; rintro e w9 ⟨rfl, hb9⟩; have HB9 := Lib.hid (below_step HB6.out hb9); clear hb9)
      go_ret
      exact ⟨rfl, below_step HBA.out HB9.out⟩
end Go.Proofs.Ythnlfgaljkfhaaa

namespace Go.Proofs.Ythnlfgaljkfhaaa
set_option linter.unusedVariables false
open Go.RowKit Go.Lib

theorem unless_any (b : Bool) (e : Int) (w : World) : Calls Try.prog 25 #[.bool b, .int .i64 e] w fun x w' => x = .returned (.int .i64 (if b = true then 0 else e)) ∧ w = w' := by
  cases b
  · go_enter Try.func25, Try.ntmps25
    go_wp2
    go_ret
    exact ⟨rfl, rfl⟩
  · go_enter Try.func25, Try.ntmps25
    go_wp2
    go_ret
    exact ⟨rfl, rfl⟩
def cntB (n : Int) : Bool := decide (0 ≤ n ∧ n ≤ 4294967295)
theorem isCount_any (n : Int) (w : World) : Calls Try.prog 27 #[.int .i64 n] w fun x w' => x = .returned (.bool (cntB n)) ∧ w = w' := by
  by_cases h0 : n ≥ 0
  · by_cases h1 : n ≤ 4294967295
    · have HR : Hid (cntB n = true) := Lib.hid (decide_eq_true ⟨h0, h1⟩)
      go_enter Try.func27, Try.ntmps27
      go_wp2
      go_ret
      exact ⟨by rw [HR.out]; rfl, rfl⟩
    · have HR : Hid (cntB n = false) := Lib.hid (decide_eq_false fun h => h1 h.2)
      go_enter Try.func27, Try.ntmps27
      go_wp2
      go_ret
      exact ⟨by rw [HR.out]; rfl, rfl⟩
  · have HR : Hid (cntB n = false) := Lib.hid (decide_eq_false fun h => h0 h.1)
    go_enter Try.func27, Try.ntmps27
    go_wp2
    go_ret
    exact ⟨by rw [HR.out]; rfl, rfl⟩

set_option maxRecDepth 100000 in
set_option maxHeartbeats 1000000 in
theorem right_any (x : Rq) (w : World) (hf : x.Fit w) : Calls Try.prog 10 #[x.v] w fun e w' => e = .returned (.int .i64 (rightN x.rc)) ∧ Below w.heap.size w w' := by
  have hd := hf.dg.1
  have hx := hf.bs.len
  have hn := hf.nm
  obtain ⟨wA, hA, _, hb, c0, c1, c34, c35, c36, c37⟩ := box_rec w x hd
  have HB := Lib.hid hb
  have HT := Lib.hid fun W => ntag_any x.nm W hn
  obtain ⟨R, hR⟩ : ∃ R, rightN x.rc = R := ⟨_, rfl⟩
  rw [hR]
  have HR : Hid (R = rightN x.rc) := Lib.hid hR.symm
  clear hR
  unfold rightN Rq.rc at HR
  dsimp only at HR
  rw [hx] at HR
  unfold Rq.v
  obtain ⟨k, s, dg, nm, p, n, c, da, N, Z⟩ := x
  dsimp only at *
  generalize mixC _ _ _ = M at *
  generalize tagP (numsOf nm) = tb at *
  clear hb hd hx hn c1 hf
  rcases kinds (k := k) with h | h | rfl | rfl | rfl | rfl | rfl | rfl | rfl | rfl
  · replace HR : Hid (R = 2) := Lib.hid (by rw [HR.out, if_pos (Or.inl h)])
    clear c34 c35 c36 c37
    have n1 : (k == 1) = false := by simp; omega
    have n2 : (k == 2) = false := by simp; omega
    have n3 : (k == 3) = false := by simp; omega
    have n4 : (k == 4) = false := by simp; omega
    have n5 : (k == 5) = false := by simp; omega
    have n6 : (k == 6) = false := by simp; omega
    have n7 : (k == 7) = false := by simp; omega
    have n8 : (k == 8) = false := by simp; omega
    clear h
    go_enter Try.func10, Try.ntmps10
    go_wp2
    go_ret
    exact ⟨by rw [HR.out]; rfl, HB.out⟩
  · replace HR : Hid (R = 2) := Lib.hid (by rw [HR.out, if_pos (Or.inr h)])
    clear c34 c35 c36 c37
    have n1 : (k == 1) = false := by simp; omega
    have n2 : (k == 2) = false := by simp; omega
    have n3 : (k == 3) = false := by simp; omega
    have n4 : (k == 4) = false := by simp; omega
    have n5 : (k == 5) = false := by simp; omega
    have n6 : (k == 6) = false := by simp; omega
    have n7 : (k == 7) = false := by simp; omega
    have n8 : (k == 8) = false := by simp; omega
    clear h
    go_enter Try.func10, Try.ntmps10
    go_wp2
    go_ret
    exact ⟨by rw [HR.out]; rfl, HB.out⟩
  · clear c34 c36 c37
    by_cases h : (n : Int) ≤ 65504
    · replace HR : Hid (R = 0) := Lib.hid (by rw [HR.out]; simp; omega)
      go_enter Try.func10, Try.ntmps10
      go_wp2_with (first | (go_at_call 25; refine (unless_any _ _ _).mono ?_; rintro e wu ⟨rfl, rfl⟩))
      go_ret
      exact ⟨by rw [HR.out]; rfl, HB.out⟩
    · replace HR : Hid (R = 18) := Lib.hid (by rw [HR.out]; simp; omega)
      go_enter Try.func10, Try.ntmps10
      go_wp2_with (first | (go_at_call 25; refine (unless_any _ _ _).mono ?_; rintro e wu ⟨rfl, rfl⟩))
      go_ret
      exact ⟨by rw [HR.out]; rfl, HB.out⟩
  · clear c34 c36 c37
    by_cases h : (n : Int) ≤ 65504
    · replace HR : Hid (R = 0) := Lib.hid (by rw [HR.out]; simp; omega)
      go_enter Try.func10, Try.ntmps10
      go_wp2_with (first | (go_at_call 25; refine (unless_any _ _ _).mono ?_; rintro e wu ⟨rfl, rfl⟩))
      go_ret
      exact ⟨by rw [HR.out]; rfl, HB.out⟩
    · replace HR : Hid (R = 18) := Lib.hid (by rw [HR.out]; simp; omega)
      go_enter Try.func10, Try.ntmps10
      go_wp2_with (first | (go_at_call 25; refine (unless_any _ _ _).mono ?_; rintro e wu ⟨rfl, rfl⟩))
      go_ret
      exact ⟨by rw [HR.out]; rfl, HB.out⟩
  · clear c35 c36 c37
    cases tb
    · replace HR : Hid (R = 12) := Lib.hid (by rw [HR.out]; simp)
      go_enter Try.func10, Try.ntmps10
      go_wp2_with (first | (go_at_call 25; refine (unless_any _ _ _).mono ?_; rintro e wu ⟨rfl, rfl⟩) | (go_at_call 26; refine (HT.out _).mono ?_; rintro e w1 ⟨rfl, hb1⟩; have HB1 := Lib.hid (below_step HB.out hb1); clear hb1))
      go_ret
      exact ⟨by rw [HR.out]; rfl, HB1.out⟩
    · replace HR : Hid (R = 0) := Lib.hid (by rw [HR.out]; simp)
      go_enter Try.func10, Try.ntmps10
      go_wp2_with (first | (go_at_call 25; refine (unless_any _ _ _).mono ?_; rintro e wu ⟨rfl, rfl⟩) | (go_at_call 26; refine (HT.out _).mono ?_; rintro e w1 ⟨rfl, hb1⟩; have HB1 := Lib.hid (below_step HB.out hb1); clear hb1))
      go_ret
      exact ⟨by rw [HR.out]; rfl, HB1.out⟩
  · clear c35 c36 c37
    cases tb
    · replace HR : Hid (R = 12) := Lib.hid (by rw [HR.out]; simp)
      go_enter Try.func10, Try.ntmps10
      go_wp2_with (first | (go_at_call 25; refine (unless_any _ _ _).mono ?_; rintro e wu ⟨rfl, rfl⟩) | (go_at_call 26; refine (HT.out _).mono ?_; rintro e w1 ⟨rfl, hb1⟩; have HB1 := Lib.hid (below_step HB.out hb1); clear hb1))
      go_ret
      exact ⟨by rw [HR.out]; rfl, HB1.out⟩
    · replace HR : Hid (R = 0) := Lib.hid (by rw [HR.out]; simp)
      go_enter Try.func10, Try.ntmps10
      go_wp2_with (first | (go_at_call 25; refine (unless_any _ _ _).mono ?_; rintro e wu ⟨rfl, rfl⟩) | (go_at_call 26; refine (HT.out _).mono ?_; rintro e w1 ⟨rfl, hb1⟩; have HB1 := Lib.hid (below_step HB.out hb1); clear hb1))
      go_ret
      exact ⟨by rw [HR.out]; rfl, HB1.out⟩
  · clear c34 c35 c36 c37
    replace HR : Hid (R = 0) := Lib.hid (by rw [HR.out]; simp)
    go_enter Try.func10, Try.ntmps10
    go_wp2
    go_ret
    exact ⟨by rw [HR.out]; rfl, HB.out⟩
  · clear c34 c35
    by_cases h1 : 0 ≤ N ∧ N ≤ 4294967295
    · have d1 : cntB N = true := decide_eq_true h1
      by_cases h2 : 0 ≤ Z ∧ Z ≤ 4294967295
      · have d2 : cntB Z = true := decide_eq_true h2
        replace HR : Hid (R = 0) := Lib.hid (by rw [HR.out]; simp; omega)
        clear h1 h2
        go_enter Try.func10, Try.ntmps10
        go_wp2_with (first | (go_at_call 25; refine (unless_any _ _ _).mono ?_; rintro e wu ⟨rfl, rfl⟩) | (go_at_call 27; refine (isCount_any _ _).mono ?_; rintro e wc ⟨rfl, rfl⟩; first | rw [d1] | rw [d2]))
        go_ret
        exact ⟨by rw [HR.out]; rfl, HB.out⟩
      · have d2 : cntB Z = false := decide_eq_false h2
        replace HR : Hid (R = 20) := Lib.hid (by rw [HR.out]; simp; omega)
        clear h1 h2
        go_enter Try.func10, Try.ntmps10
        go_wp2_with (first | (go_at_call 25; refine (unless_any _ _ _).mono ?_; rintro e wu ⟨rfl, rfl⟩) | (go_at_call 27; refine (isCount_any _ _).mono ?_; rintro e wc ⟨rfl, rfl⟩; first | rw [d1] | rw [d2]))
        go_ret
        exact ⟨by rw [HR.out]; rfl, HB.out⟩
    · have d1 : cntB N = false := decide_eq_false h1
      replace HR : Hid (R = 20) := Lib.hid (by rw [HR.out]; simp; omega)
      clear h1
      go_enter Try.func10, Try.ntmps10
      go_wp2_with (first | (go_at_call 25; refine (unless_any _ _ _).mono ?_; rintro e wu ⟨rfl, rfl⟩) | (go_at_call 27; refine (isCount_any _ _).mono ?_; rintro e wc ⟨rfl, rfl⟩; first | rw [d1] | rw [d2]))
      go_ret
      exact ⟨by rw [HR.out]; rfl, HB.out⟩
  · clear c34 c35 c37
    by_cases h1 : N ≥ 1
    · by_cases h2 : N ≤ 99999999
      · replace HR : Hid (R = 0) := Lib.hid (by rw [HR.out]; simp; omega)
        go_enter Try.func10, Try.ntmps10
        go_wp2_with (first | (go_at_call 25; refine (unless_any _ _ _).mono ?_; rintro e wu ⟨rfl, rfl⟩))
        go_ret
        exact ⟨by rw [HR.out]; rfl, HB.out⟩
      · replace HR : Hid (R = 20) := Lib.hid (by rw [HR.out]; simp; omega)
        go_enter Try.func10, Try.ntmps10
        go_wp2_with (first | (go_at_call 25; refine (unless_any _ _ _).mono ?_; rintro e wu ⟨rfl, rfl⟩))
        go_ret
        exact ⟨by rw [HR.out]; rfl, HB.out⟩
    · replace HR : Hid (R = 20) := Lib.hid (by rw [HR.out]; simp; omega)
      go_enter Try.func10, Try.ntmps10
      go_wp2_with (first | (go_at_call 25; refine (unless_any _ _ _).mono ?_; rintro e wu ⟨rfl, rfl⟩))
      go_ret
      exact ⟨by rw [HR.out]; rfl, HB.out⟩
  · clear c34 c35
    by_cases h1 : 0 ≤ N ∧ N ≤ 4294967295
    · have d1 : cntB N = true := decide_eq_true h1
      by_cases h2 : 0 ≤ Z ∧ Z ≤ 4294967295
      · have d2 : cntB Z = true := decide_eq_true h2
        replace HR : Hid (R = 0) := Lib.hid (by rw [HR.out]; simp; omega)
        clear h1 h2
        go_enter Try.func10, Try.ntmps10
        go_wp2_with (first | (go_at_call 25; refine (unless_any _ _ _).mono ?_; rintro e wu ⟨rfl, rfl⟩) | (go_at_call 27; refine (isCount_any _ _).mono ?_; rintro e wc ⟨rfl, rfl⟩; first | rw [d1] | rw [d2]))
        go_ret
        exact ⟨by rw [HR.out]; rfl, HB.out⟩
      · have d2 : cntB Z = false := decide_eq_false h2
        replace HR : Hid (R = 20) := Lib.hid (by rw [HR.out]; simp; omega)
        clear h1 h2
        go_enter Try.func10, Try.ntmps10
        go_wp2_with (first | (go_at_call 25; refine (unless_any _ _ _).mono ?_; rintro e wu ⟨rfl, rfl⟩) | (go_at_call 27; refine (isCount_any _ _).mono ?_; rintro e wc ⟨rfl, rfl⟩; first | rw [d1] | rw [d2]))
        go_ret
        exact ⟨by rw [HR.out]; rfl, HB.out⟩
    · have d1 : cntB N = false := decide_eq_false h1
      replace HR : Hid (R = 20) := Lib.hid (by rw [HR.out]; simp; omega)
      clear h1
      go_enter Try.func10, Try.ntmps10
      go_wp2_with (first | (go_at_call 25; refine (unless_any _ _ _).mono ?_; rintro e wu ⟨rfl, rfl⟩) | (go_at_call 27; refine (isCount_any _ _).mono ?_; rintro e wc ⟨rfl, rfl⟩; first | rw [d1] | rw [d2]))
      go_ret
      exact ⟨by rw [HR.out]; rfl, HB.out⟩
theorem cright_ok : cRightOk := fun x w hf _ => right_any x w hf
end Go.Proofs.Ythnlfgaljkfhaaa

namespace Go.Proofs.Ythnlfgaljkfhaaa
set_option linter.unusedVariables false
open Go.RowKit Go.Lib

theorem bareQ_fits {x : Rq} {w : World} (h : x.Fit w) : (bareQ x).Fit w := by
  have e1 : (bareQ x).p = if x.k ≤ 2 then x.p else none := rfl
  have e2 : (bareQ x).n = if x.k ≤ 2 then x.n else 0 := rfl
  have e3 : (bareQ x).c = if x.k ≤ 2 then x.c else 0 := rfl
  have e4 : (bareQ x).da = if x.k ≤ 2 then x.da else [] := rfl
  have e5 : (bareQ x).dg = if x.k ≤ 3 ∨ x.k = 5 then x.dg else dg0 := rfl
  have e6 : (bareQ x).nm = if x.k = 3 ∨ x.k = 4 then x.nm else ⟨#[]⟩ := rfl
  have e7 : (bareQ x).N = if x.k ≥ 6 then x.N else 0 := rfl
  have e8 : (bareQ x).Z = if x.k = 6 ∨ x.k = 8 then x.Z else 0 := rfl
  refine ⟨?_, ?_, ?_, ?_, ?_, ?_, h.s, h.k, ?_, ?_⟩
  · rw [e1, e2, e4]; split
    · exact h.bs
    · exact Bs.empty _ _
  · rw [e1, e3]; split
    · exact h.pc
    · exact fun _ => rfl
  · rw [e2, e3]; split
    · exact h.nc
    · exact Nat.le_refl _
  · rw [e3]; split
    · exact h.cm
    · exact Nat.zero_le _
  · rw [e5]; split
    · exact h.dg
    · exact dok_zero
  · rw [e6]; split
    · exact h.nm
    · exact (Nat.zero_le 140737488355328 : (0 : Nat) ≤ 140737488355328)
  · rw [e7]; split
    · exact h.N
    · exact i64_zero
  · rw [e8]; split
    · exact h.Z
    · exact i64_zero

set_option maxRecDepth 100000 in
set_option maxHeartbeats 2000000 in
theorem cmake_ok : cMakeOk := by
  intro x w hx hn2
  obtain ⟨wA, hA, hm, hb, c0, c1, _⟩ := box_rec w x hx.dg.1
  have HB := Lib.hid hb
  have HS := Lib.hid hb.size
  have HX := Lib.hid hx
  have HXD := Lib.hid hx.dg.1
  have HRA := Lib.hid hm
  have HL := Lib.hid fun W (hW : Below wA.heap.size wA W) => (hm.later hW).load hx.dg.1
  have HRI := Lib.hid fun W (hW : x.Fit W) => cright_ok x W hW hn2
  have HOW := Lib.hid fun W (hW : x.Fit W) (hr : rightN x.rc = 0) => own_in x W hW (rightN_k hr)
  have HDL := Lib.hid fun hr => dataN_len hx.ok hr
  have HM : Hid (makeN x.rc = if rightN x.rc = 0 then frmN x.k x.s (dataN x.rc) else []) := Lib.hid rfl
  have HLB := Lib.hid fun hr => leadN_bare (r := x.rc) (rightN_k hr)
  have HBR := Lib.hid (bare_right (r := x.rc))
  have HFX := Lib.hid fun W (hW : Below w.heap.size w W) => hx.later hW
  have hs := hx.s
  have HRC := Lib.hid (show bareN x.rc = _ from rfl)
  generalize makeN x.rc = FR at *
  generalize rightN x.rc = R at *
  generalize dataN x.rc = D at *
  unfold Rq.v at HRI HOW ⊢
  generalize hM : mixC x.a x.dg x.z = M at *
  clear hx hm hb c0 c1 hn2
  by_cases h : R = 0
  · subst h
    rw [if_pos rfl] at HM
    go_enter Try.func7, Try.ntmps7
    go_upto_region 5 with (first
      | (refine wpList_ld rfl _ _ rfl _ rfl _ (HL.out _ (Below.refl _ _)) ?_)
      | (go_at_call 10; refine (HRI.out _ (HFX.out _ HB.out)).mono ?_; rintro e w1 ⟨rfl, hb1⟩; have HB1 := Lib.hid hb1; clear hb1)
      | (refine wpList_ld rfl _ _ rfl _ rfl _ (HL.out _ HB1.out) ?_)
      | (go_at_call 21; refine (HOW.out _ (HFX.out _ (below_step HB.out HB1.out)) (by first | rfl | trivial)).mono ?_; rintro e w2 ⟨y, rfl, hf2, he2, hb2, hy2⟩; have HB2 := Lib.hid (below_step HB1.out hb2); have HE2 := Lib.hid he2; have HY2 := Lib.hid hy2; have HR2 : Hid (w2.heap[w.heap.size]? = some (.cells M 27 (0, 0))) := Lib.hid (by rw [← hM]; exact HRA.out.later HB2.out); have HFY : Hid (∀ W, x.Fit W → y.Fit W) := Lib.hid fun W hW => by { rw [hy2]; exact bareQ_fits hW }; have HSZ : Hid (M.size = (mixC y.a y.dg y.z).size) := Lib.hid (by rw [← hM]; exact Rq.sizes x y HXD.out hf2.dg.1); have HYD := Lib.hid hf2.dg.1; clear hf2 he2 hb2 hy2)
      | (refine wpList_store_row rfl 27 _ _ rfl w.heap.size _ rfl rfl 27 _ HR2.out (Rq.sizeOf y HYD.out) HSZ.out y.one ?_; generalize hw3 : World.setRow _ _ _ = w3))
    have HR3 : Hid (Rm w3 w.heap.size y) := Lib.hid (by rw [← hw3]; exact Mx.row (show Mx w2 w.heap.size 27 x.a x.dg x.z from HRA.out.later HB2.out))
    have HB3 : Hid (Below w.heap.size w w3) := Lib.hid (by rw [← hw3]; exact below_setRow8 (below_step HB.out HB2.out) _ _ (Nat.le_refl _))
    have HYK : Hid (y.k = x.k ∧ y.s = x.s) := Lib.hid (by rw [HY2.out]; exact ⟨rfl, rfl⟩)
    have HF4 := Lib.hid fun W (hW : Below w3.heap.size w3 W) => HFY.out W (HFX.out W (below_step HB3.out hW))
    have HLE := Lib.hid fun W (hW : Below w3.heap.size w3 W) => lead_any y W (HF4.out W hW) (by rw [HE2.out]; exact HBR.out (by first | rfl | trivial))
    have HCT : Hid (leadN y.rc ++ y.da = D) := Lib.hid (by rw [← HLB.out (by first | rfl | trivial), ← HE2.out]; rfl)
    have HYL := Lib.hid (HF4.out _ (Below.refl _ _)).bs.len
    have HSS := Lib.hid fun W (hW : Below w3.heap.size w3 W) => (show W.cell? ⟨w.heap.size, 0, none⟩ = some (.int .i64 y.k) ∧ W.cell? ⟨w.heap.size, 1, none⟩ = some (.int .u64 y.s) ∧ W.cell? ⟨w.heap.size, 35, none⟩ = some (.slice y.p y.n y.c) ∧ W.rangeAt w.heap.size 0 (mixL y.a y.dg y.z) from by
      obtain ⟨h0, h1, _, h3, _⟩ := (HR3.out.later hW).cells HYD.out
      exact ⟨h0, h1, h3, Mx.range (HR3.out.later hW)⟩)
    have HLZ : Hid ((Try.prog.info? 27).map (·.size) = some (mixL y.a y.dg y.z).length) := Lib.hid (by rw [mixL_length, HYD.out]; exact size38)
    have hD := HDL.out (by first | rfl | trivial)
    obtain ⟨DN, hDN⟩ : ∃ n, D.length = n := ⟨_, rfl⟩
    have HDN := Lib.hid hDN
    rw [hDN] at hD
    obtain ⟨G, hG⟩ : ∃ G, leadN y.rc = G := ⟨_, rfl⟩
    obtain ⟨GN, hGN⟩ : ∃ n, G.length = n := ⟨_, rfl⟩
    have HGN := Lib.hid hGN
    have hsum : GN + y.n = DN := by rw [← hDN, ← HCT.out, List.length_append, hG, hGN, HYL.out]
    rw [hG] at HLE HCT
    unfold Rq.v mixC at HLE
    generalize mixL y.a y.dg y.z = L at *
    clear hDN hG hGN hw3
    refine wp_region_held_drew (S := (fun W => W.cell? ⟨w.heap.size, 0, none⟩ = some (.int .i64 y.k) ∧ W.cell? ⟨w.heap.size, 1, none⟩ = some (.int .u64 y.s) ∧ W.cell? ⟨w.heap.size, 35, none⟩ = some (.slice y.p y.n y.c) ∧ W.rangeAt w.heap.size 0 L)) (by kernel_rfl) (HSS.out _ (Below.refl _ _).drew) (fun hHeld => ?_)
    refine take_at 0 (v := ?vv1) rfl (by kernel_rfl) (by kernel_rfl) (by kernel_rfl) (fun _ _ _ h => h) (Or.inl ⟨by rfl, ?hy1⟩) (by assumption) ?rest1
    case hy1 => intro w hSw; (try dsimp only at hSw); go_simp; (try with_reducible rfl)
    (try simp only [Act.put, List.setIfInBounds_toArray, List.set_cons_zero, List.set_cons_succ])
    refine take_at 1 (v := ?vv2) rfl (by kernel_rfl) (by kernel_rfl) (by kernel_rfl) (fun _ _ _ h => h) (Or.inl ⟨by rfl, ?hy2⟩) (by assumption) ?rest2
    case hy2 => intro w hSw; (try dsimp only at hSw); go_simp; (try with_reducible rfl)
    (try simp only [Act.put, List.setIfInBounds_toArray, List.set_cons_zero, List.set_cons_succ])
    refine take_at 2 (v := ?vv3) rfl (by kernel_rfl) (by kernel_rfl) (by kernel_rfl) (fun _ _ _ h => h) (Or.inl ⟨by rfl, ?hy3⟩) (by assumption) ?rest3
    case hy3 => intro w hSw; (try dsimp only at hSw); go_simp; (try with_reducible rfl)
    (try simp only [Act.put, List.setIfInBounds_toArray, List.set_cons_zero, List.set_cons_succ])
    refine take_at 3 (v := ?vv4) rfl (by kernel_rfl) (by kernel_rfl) (by kernel_rfl) (fun _ _ _ h => h) (Or.inl ⟨by rfl, ?hy4⟩) (by assumption) ?rest4
    case hy4 => intro w hSw; (try dsimp only at hSw); go_simp; (try with_reducible rfl)
    (try simp only [Act.put, List.setIfInBounds_toArray, List.set_cons_zero, List.set_cons_succ])
    refine take_at 4 rfl (by kernel_rfl) (by kernel_rfl) (by kernel_rfl) (fun _ _ _ h => h) (yieldsIf_load_mid (by rfl) _ _ rfl _ _ rfl _ _ (fun _ h => h.2.2.2) Try.underlying27 rfl HLZ.out) (by assumption) ?_
    (try simp only [Act.put, List.setIfInBounds_toArray, List.set_cons_zero, List.set_cons_succ])
    refine take_at 6 (v := ?vv6) rfl (by kernel_rfl) (by kernel_rfl) (by kernel_rfl) (fun _ _ _ h => h) (Or.inl ⟨by rfl, ?hy6⟩) (by assumption) ?rest6
    case hy6 => intro w hSw; (try dsimp only at hSw); go_simp; (try with_reducible rfl)
    (try simp only [Act.put, List.setIfInBounds_toArray, List.set_cons_zero, List.set_cons_succ])
    refine take_at 7 (v := ?vv7) rfl (by kernel_rfl) (by kernel_rfl) (by kernel_rfl) (fun _ _ _ h => h) (Or.inl ⟨by rfl, ?hy7⟩) (by assumption) ?rest7
    case hy7 => intro w hSw; (try dsimp only at hSw); go_simp; (try with_reducible rfl)
    (try simp only [Act.put, List.setIfInBounds_toArray, List.set_cons_zero, List.set_cons_succ])
    refine ready_at 5 rfl (by kernel_rfl) (fun K hK => ?_)
    go_simp
    refine (HLE.out _ (Below.refl _ _).drew).mono ?_
    rintro e w4 ⟨v4, rfl, ho4, hb4⟩
    have HB4 : Hid (Below w3.heap.size w3 w4) := Lib.hid (below_step (Below.refl w3.heap.size w3).drew hb4)
    have HO4 : Hid (Ob w4 w3.heap.size 5 v4 G) := Lib.hid ho4
    obtain ⟨p4, c4, hv4, hlc4, hcm4, hbs4, hpc4⟩ := ho4.open
    rw [HGN.out] at hv4 hlc4 hbs4
    subst hv4
    have KB := Lib.hid (HSS.out _ HB4.out)
    clear ho4 hb4 hbs4 hpc4 hlc4 hcm4
    first
      | refine hK.out _ _ ?hS8 (fun hHeld => ?rest8)
      | (go_wp2_with fail; refine hK.out _ _ ?hS8 (fun hHeld => ?rest8))
    case hS8 => exact KB.out
    clear hK K
    (try simp only [Act.put, List.setIfInBounds_toArray, List.set_cons_zero, List.set_cons_succ])
    refine ready_at 8 rfl (by kernel_rfl) (fun K hK => ?_)
    rw [if_pos (by rfl)]
    refine wp_append_bytes _ _ 25 5 rfl Try.underlying25 info8 w3.heap.size _ G rfl HO4.out y.p y.n y.c y.da rfl (HF4.out _ HB4.out).bs (HF4.out _ HB4.out).pc (by rw [HGN.out]; omega) HB4.out.size ?_
    intro v5 w5 ho5 hg5
    rw [HCT.out] at ho5
    have HB5 := Lib.hid (below_new HB4.out HO4.out hg5 HB4.out.size)
    obtain ⟨p5, c5, hv5, hlc5, hcm5, hbs5, hpc5⟩ := ho5.open
    rw [HDN.out] at hv5 hlc5 hbs5
    subst hv5
    have HD5 := Lib.hid hbs5
    have HP5 := Lib.hid hpc5
    have KC := Lib.hid (HSS.out _ HB5.out)
    clear ho5 hg5 hbs5 hpc5 hlc5 hcm5
    refine hK.out _ _ ?hS9 (fun hHeld => ?rest9)
    case hS9 => exact KC.out
    clear hK K
    (try simp only [Act.put, List.setIfInBounds_toArray, List.set_cons_zero, List.set_cons_succ])
    refine ready_at 9 rfl (by kernel_rfl) (fun K hK => ?_)
    go_simp
    refine (fmake_any y.k y.s p5 DN c5 D _ HD5.out HP5.out (by omega) (by rw [HYK.out.2]; exact hs)).mono ?_
    rintro e w6 ⟨v6, rfl, ho6, hb6⟩
    rw [HYK.out.1, HYK.out.2, ← HM.out] at ho6
    have HB6 := Lib.hid (below_step HB5.out hb6)
    have KD := Lib.hid (HSS.out _ HB6.out)
    have HO6 := Lib.hid (ho6.mono (Nat.le_trans HB3.out.size HB5.out.size))
    clear ho6 hb6
    first
      | refine hK.out _ _ ?hS10 (fun hHeld => ?rest10)
      | (go_wp2_with fail; refine hK.out _ _ ?hS10 (fun hHeld => ?rest10))
    case hS10 => exact KD.out
    clear hK K
    (try simp only [Act.put, List.setIfInBounds_toArray, List.set_cons_zero, List.set_cons_succ])
    refine take_at 10 (v := ?vv11) rfl (by kernel_rfl) (by kernel_rfl) (by kernel_rfl) (fun _ _ _ h => h) (Or.inl ⟨by rfl, ?hy11⟩) (by assumption) ?rest11
    case hy11 => intro w hSw; (try dsimp only at hSw); go_simp; (try with_reducible rfl)
    (try simp only [Act.put, List.setIfInBounds_toArray, List.set_cons_zero, List.set_cons_succ])
    refine take_at 11 (v := ?vv12) rfl (by kernel_rfl) (by kernel_rfl) (by kernel_rfl) (fun _ _ _ h => h) (Or.inl ⟨by rfl, ?hy12⟩) (by assumption) ?rest12
    case hy12 => intro w hSw; (try dsimp only at hSw); go_simp; (try with_reducible rfl)
    (try simp only [Act.put, List.setIfInBounds_toArray, List.set_cons_zero, List.set_cons_succ])
    refine wpAnyH_done (by kernel_rfl) ?_ _
    go_wp2
    go_ret2
    exact ⟨_, rfl, HO6.out, below_step HB3.out HB6.out⟩
  · rw [if_neg h] at HM
    have hne : (R != 0) = true := by simpa using h
    go_enter Try.func7, Try.ntmps7
    go_wp2_with (first
      | (refine wpList_ld rfl _ _ rfl _ rfl _ (HL.out _ (Below.refl _ _)) ?_)
      | (go_at_call 10; refine (HRI.out _ (HFX.out _ HB.out)).mono ?_; rintro e w1 ⟨rfl, hb1⟩; have HB1 := Lib.hid hb1; clear hb1))
    go_ret2
    exact ⟨_, rfl, by rw [HM.out]; exact Ob.nil _ _ _, below_step HB.out HB1.out⟩

set_option maxRecDepth 100000 in
set_option maxHeartbeats 2000000 in
theorem csize_ok : cSizeOk := by
  intro x w hx hn2
  obtain ⟨wA, hA, hm, hb, c0, c1, _⟩ := box_rec w x hx.dg.1
  have HB := Lib.hid hb
  have HS := Lib.hid hb.size
  have HX := Lib.hid hx
  have HXD := Lib.hid hx.dg.1
  have HRA := Lib.hid hm
  have HL := Lib.hid fun W (hW : Below wA.heap.size wA W) => (hm.later hW).load hx.dg.1
  have HRI := Lib.hid fun W (hW : x.Fit W) => cright_ok x W hW hn2
  have HOW := Lib.hid fun W (hW : x.Fit W) (hr : rightN x.rc = 0) => own_in x W hW (rightN_k hr)
  have HDL := Lib.hid fun hr => dataN_len hx.ok hr
  have HM : Hid (makeN x.rc = if rightN x.rc = 0 then frmN x.k x.s (dataN x.rc) else []) := Lib.hid rfl
  have HLB := Lib.hid fun hr => leadN_bare (r := x.rc) (rightN_k hr)
  have HBR := Lib.hid (bare_right (r := x.rc))
  have HFX := Lib.hid fun W (hW : Below w.heap.size w W) => hx.later hW
  have hs := hx.s
  have HRC := Lib.hid (show bareN x.rc = _ from rfl)
  generalize makeN x.rc = FR at *
  generalize rightN x.rc = R at *
  generalize dataN x.rc = D at *
  unfold Rq.v at HRI HOW ⊢
  generalize hM : mixC x.a x.dg x.z = M at *
  clear hx hm hb c0 c1 hn2
  by_cases h : R = 0
  · subst h
    rw [if_pos rfl] at HM
    go_enter Try.func12, Try.ntmps12
    go_upto_region 4 with (first
      | (refine wpList_ld rfl _ _ rfl _ rfl _ (HL.out _ (Below.refl _ _)) ?_)
      | (go_at_call 10; refine (HRI.out _ (HFX.out _ HB.out)).mono ?_; rintro e w1 ⟨rfl, hb1⟩; have HB1 := Lib.hid hb1; clear hb1)
      | (refine wpList_ld rfl _ _ rfl _ rfl _ (HL.out _ HB1.out) ?_)
      | (go_at_call 21; refine (HOW.out _ (HFX.out _ (below_step HB.out HB1.out)) (by first | rfl | trivial)).mono ?_; rintro e w2 ⟨y, rfl, hf2, he2, hb2, hy2⟩; have HB2 := Lib.hid (below_step HB1.out hb2); have HE2 := Lib.hid he2; have HY2 := Lib.hid hy2; have HR2 : Hid (w2.heap[w.heap.size]? = some (.cells M 27 (0, 0))) := Lib.hid (by rw [← hM]; exact HRA.out.later HB2.out); have HFY : Hid (∀ W, x.Fit W → y.Fit W) := Lib.hid fun W hW => by { rw [hy2]; exact bareQ_fits hW }; have HSZ : Hid (M.size = (mixC y.a y.dg y.z).size) := Lib.hid (by rw [← hM]; exact Rq.sizes x y HXD.out hf2.dg.1); have HYD := Lib.hid hf2.dg.1; clear hf2 he2 hb2 hy2)
      | (refine wpList_store_row rfl 27 _ _ rfl w.heap.size _ rfl rfl 27 _ HR2.out (Rq.sizeOf y HYD.out) HSZ.out y.one ?_; generalize hw3 : World.setRow _ _ _ = w3))
    have HR3 : Hid (Rm w3 w.heap.size y) := Lib.hid (by rw [← hw3]; exact Mx.row (show Mx w2 w.heap.size 27 x.a x.dg x.z from HRA.out.later HB2.out))
    have HB3 : Hid (Below w.heap.size w w3) := Lib.hid (by rw [← hw3]; exact below_setRow8 (below_step HB.out HB2.out) _ _ (Nat.le_refl _))
    have HYK : Hid (y.k = x.k ∧ y.s = x.s) := Lib.hid (by rw [HY2.out]; exact ⟨rfl, rfl⟩)
    have HF4 := Lib.hid fun W (hW : Below w3.heap.size w3 W) => HFY.out W (HFX.out W (below_step HB3.out hW))
    have HLE := Lib.hid fun W (hW : Below w3.heap.size w3 W) => lead_any y W (HF4.out W hW) (by rw [HE2.out]; exact HBR.out (by first | rfl | trivial))
    have HCT : Hid (leadN y.rc ++ y.da = D) := Lib.hid (by rw [← HLB.out (by first | rfl | trivial), ← HE2.out]; rfl)
    have HYL := Lib.hid (HF4.out _ (Below.refl _ _)).bs.len
    have HSS := Lib.hid fun W (hW : Below w3.heap.size w3 W) => (show W.cell? ⟨w.heap.size, 0, none⟩ = some (.int .i64 y.k) ∧ W.cell? ⟨w.heap.size, 1, none⟩ = some (.int .u64 y.s) ∧ W.cell? ⟨w.heap.size, 35, none⟩ = some (.slice y.p y.n y.c) ∧ W.rangeAt w.heap.size 0 (mixL y.a y.dg y.z) from by
      obtain ⟨h0, h1, _, h3, _⟩ := (HR3.out.later hW).cells HYD.out
      exact ⟨h0, h1, h3, Mx.range (HR3.out.later hW)⟩)
    have HLZ : Hid ((Try.prog.info? 27).map (·.size) = some (mixL y.a y.dg y.z).length) := Lib.hid (by rw [mixL_length, HYD.out]; exact size38)
    have hD := HDL.out (by first | rfl | trivial)
    obtain ⟨DN, hDN⟩ : ∃ n, D.length = n := ⟨_, rfl⟩
    have HDN := Lib.hid hDN
    rw [hDN] at hD
    obtain ⟨G, hG⟩ : ∃ G, leadN y.rc = G := ⟨_, rfl⟩
    obtain ⟨GN, hGN⟩ : ∃ n, G.length = n := ⟨_, rfl⟩
    have HGN := Lib.hid hGN
    have hsum : GN + y.n = DN := by rw [← hDN, ← HCT.out, List.length_append, hG, hGN, HYL.out]
    rw [hG] at HLE HCT
    unfold Rq.v mixC at HLE
    generalize mixL y.a y.dg y.z = L at *
    clear hDN hG hGN hw3
    have HFS : Hid (∀ W, Calls Try.prog 29 #[.int .i64 (IntKind.i64.wrap ((GN : Int) + (y.n : Int)))] W fun e w' => e = .returned (.int .i64 ((DN : Int) + 21)) ∧ W = w') := Lib.hid fun W => by
      have h1 := fsize_any (GN + y.n) W (by omega)
      have hw : IntKind.i64.wrap ((GN : Int) + (y.n : Int)) = (GN : Int) + (y.n : Int) := by simp [IntKind.wrap, IntKind.bits, IntKind.signed]; omega
      rw [hw]
      rw [Int.natCast_add] at h1
      rw [← hsum, Int.natCast_add]
      exact h1
    have hyn : y.n ≤ 65536 := by omega
    have hgn : GN ≤ 65536 := by omega
    have HSM := Lib.hid hsum
    clear hsum
    refine wp_region_held_drew (S := (fun W => W.cell? ⟨w.heap.size, 0, none⟩ = some (.int .i64 y.k) ∧ W.cell? ⟨w.heap.size, 1, none⟩ = some (.int .u64 y.s) ∧ W.cell? ⟨w.heap.size, 35, none⟩ = some (.slice y.p y.n y.c) ∧ W.rangeAt w.heap.size 0 L)) (by kernel_rfl) (HSS.out _ (Below.refl _ _).drew) (fun hHeld => ?_)
    refine take_at 0 rfl (by kernel_rfl) (by kernel_rfl) (by kernel_rfl) (fun _ _ _ h => h) (yieldsIf_load_mid (by rfl) _ _ rfl _ _ rfl _ _ (fun _ h => h.2.2.2) Try.underlying27 rfl HLZ.out) (by assumption) ?_
    (try simp only [Act.put, List.setIfInBounds_toArray, List.set_cons_zero, List.set_cons_succ])
    refine take_at 3 (v := ?vv14) rfl (by kernel_rfl) (by kernel_rfl) (by kernel_rfl) (fun _ _ _ h => h) (Or.inl ⟨by rfl, ?hy14⟩) (by assumption) ?rest14
    case hy14 => intro w hSw; (try dsimp only at hSw); go_simp; (try with_reducible rfl)
    (try simp only [Act.put, List.setIfInBounds_toArray, List.set_cons_zero, List.set_cons_succ])
    refine take_at 4 (v := ?vv15) rfl (by kernel_rfl) (by kernel_rfl) (by kernel_rfl) (fun _ _ _ h => h) (Or.inl ⟨by rfl, ?hy15⟩) (by assumption) ?rest15
    case hy15 => intro w hSw; (try dsimp only at hSw); go_simp; (try with_reducible rfl)
    (try simp only [Act.put, List.setIfInBounds_toArray, List.set_cons_zero, List.set_cons_succ])
    refine take_at 5 (v := ?vv16) rfl (by kernel_rfl) (by kernel_rfl) (by kernel_rfl) (fun _ _ _ h => h) (Or.inl ⟨by rfl, ?hy16⟩) (by assumption) ?rest16
    case hy16 => intro w hSw; (try dsimp only at hSw); go_simp; (try with_reducible rfl)
    (try simp only [Act.put, List.setIfInBounds_toArray, List.set_cons_zero, List.set_cons_succ])
    refine ready_at 1 rfl (by kernel_rfl) (fun K hK => ?_)
    go_simp
    refine (HLE.out _ (Below.refl _ _).drew).mono ?_
    rintro e w4 ⟨v4, rfl, ho4, hb4⟩
    have HB4 : Hid (Below w3.heap.size w3 w4) := Lib.hid (below_step (Below.refl w3.heap.size w3).drew hb4)
    have HO4 : Hid (Ob w4 w3.heap.size 5 v4 G) := Lib.hid ho4
    obtain ⟨p4, c4, hv4, hlc4, hcm4, hbs4, hpc4⟩ := ho4.open
    rw [HGN.out] at hv4 hlc4 hbs4
    subst hv4
    have KB := Lib.hid (HSS.out _ HB4.out)
    clear ho4 hb4 hbs4 hpc4 hlc4 hcm4
    first
      | refine hK.out _ _ ?hS17 (fun hHeld => ?rest17)
      | (go_wp2_with fail; refine hK.out _ _ ?hS17 (fun hHeld => ?rest17))
    case hS17 => exact KB.out
    clear hK K
    (try simp only [Act.put, List.setIfInBounds_toArray, List.set_cons_zero, List.set_cons_succ])
    refine take_at 2 (v := ?vv18) rfl (by kernel_rfl) (by kernel_rfl) (by kernel_rfl) (fun _ _ _ h => h) (Or.inl ⟨by rfl, ?hy18⟩) (by assumption) ?rest18
    case hy18 => intro w hSw; (try dsimp only at hSw); go_simp; (try with_reducible rfl)
    (try simp only [Act.put, List.setIfInBounds_toArray, List.set_cons_zero, List.set_cons_succ])
    refine take_at 6 (v := ?vv19) rfl (by kernel_rfl) (by kernel_rfl) (by kernel_rfl) (fun _ _ _ h => h) (Or.inl ⟨by rfl, ?hy19⟩) (by assumption) ?rest19
    case hy19 => intro w hSw; (try dsimp only at hSw); go_simp; (try with_reducible rfl)
    (try simp only [Act.put, List.setIfInBounds_toArray, List.set_cons_zero, List.set_cons_succ])
    refine ready_at 7 rfl (by kernel_rfl) (fun K hK => ?_)
    go_simp
    refine (HFS.out _).mono ?_
    rintro e w6 ⟨rfl, rfl⟩
    first
      | refine hK.out _ _ ?hS20 (fun hHeld => ?rest20)
      | (go_wp2_with fail; refine hK.out _ _ ?hS20 (fun hHeld => ?rest20))
    case hS20 => exact KB.out
    clear hK K
    (try simp only [Act.put, List.setIfInBounds_toArray, List.set_cons_zero, List.set_cons_succ])
    refine take_at 8 (v := ?vv21) rfl (by kernel_rfl) (by kernel_rfl) (by kernel_rfl) (fun _ _ _ h => h) (Or.inl ⟨by rfl, ?hy21⟩) (by assumption) ?rest21
    case hy21 => intro w hSw; (try dsimp only at hSw); go_simp; (try with_reducible rfl)
    (try simp only [Act.put, List.setIfInBounds_toArray, List.set_cons_zero, List.set_cons_succ])
    refine wpAnyH_done (by kernel_rfl) ?_ _
    go_wp2
    go_ret
    exact ⟨by rw [HM.out, frmN_length, HDN.out]; rfl, below_step HB3.out HB4.out⟩
  · rw [if_neg h] at HM
    have hne : (R != 0) = true := by simpa using h
    go_enter Try.func12, Try.ntmps12
    go_wp2_with (first
      | (refine wpList_ld rfl _ _ rfl _ rfl _ (HL.out _ (Below.refl _ _)) ?_)
      | (go_at_call 10; refine (HRI.out _ (HFX.out _ HB.out)).mono ?_; rintro e w1 ⟨rfl, hb1⟩; have HB1 := Lib.hid hb1; clear hb1))
    go_ret
    exact ⟨by rw [HM.out]; rfl, below_step HB.out HB1.out⟩
end Go.Proofs.Ythnlfgaljkfhaaa

namespace Go.Proofs.Ythnlfgaljkfhaaa
set_option linter.unusedVariables false
open Go.RowKit Go.Lib

theorem list32 {l : List Int} (h : l.length = 32) : l = [l.getD 0 0, l.getD 1 0, l.getD 2 0, l.getD 3 0, l.getD 4 0, l.getD 5 0, l.getD 6 0, l.getD 7 0, l.getD 8 0, l.getD 9 0, l.getD 10 0, l.getD 11 0, l.getD 12 0, l.getD 13 0, l.getD 14 0, l.getD 15 0, l.getD 16 0, l.getD 17 0, l.getD 18 0, l.getD 19 0, l.getD 20 0, l.getD 21 0, l.getD 22 0, l.getD 23 0, l.getD 24 0, l.getD 25 0, l.getD 26 0, l.getD 27 0, l.getD 28 0, l.getD 29 0, l.getD 30 0, l.getD 31 0] := by
  have e : l = (List.range 32).map (fun i => l.getD i 0) := by
    refine List.ext_getElem (by simp [h]) fun i h1 h2 => ?_
    simp [List.getD_eq_getElem?_getD, List.getElem?_eq_getElem h1]
  exact e
set_option maxRecDepth 100000 in
theorem built_word32 (k s z seg off len : Int) (nm : ByteArray) (a0 a1 a2 a3 a4 a5 a6 a7 a8 a9 a10 a11 a12 a13 a14 a15 a16 a17 a18 a19 a20 a21 a22 a23 a24 a25 a26 a27 a28 a29 a30 a31 : Int) :
    Try.prog.built 39 [(0, .int .i64 k), (1, .int .u64 s), (2, .agg (bcs [a0, a1, a2, a3, a4, a5, a6, a7, a8, a9, a10, a11, a12, a13, a14, a15, a16, a17, a18, a19, a20, a21, a22, a23, a24, a25, a26, a27, a28, a29, a30, a31])), (3, .string nm), (4, .int .i64 z), (5, .agg #[.int .i64 seg, .int .i64 off, .int .i64 len])] = some (mixC [.int .i64 k, .int .u64 s] [a0, a1, a2, a3, a4, a5, a6, a7, a8, a9, a10, a11, a12, a13, a14, a15, a16, a17, a18, a19, a20, a21, a22, a23, a24, a25, a26, a27, a28, a29, a30, a31] [.string nm, .int .i64 z, .int .i64 seg, .int .i64 off, .int .i64 len]) := by kernel_rfl
theorem built_word (q : Wq) (h : q.dg.length = 32) :
    Try.prog.built 39 [(0, .int .i64 q.k), (1, .int .u64 q.s), (2, .agg (bcs q.dg)), (3, .string q.nm), (4, .int .i64 q.z), (5, .agg #[.int .i64 q.seg, .int .i64 q.off, .int .i64 q.len])] = some (mixC q.a q.dg q.t) := by
  have e := list32 h
  obtain ⟨l, hl⟩ : ∃ l, q.dg = l := ⟨_, rfl⟩
  unfold Wq.a Wq.t
  rw [hl] at e ⊢
  rw [e]
  exact built_word32 _ _ _ _ _ _ _ (l.getD 0 0) (l.getD 1 0) (l.getD 2 0) (l.getD 3 0) (l.getD 4 0) (l.getD 5 0) (l.getD 6 0) (l.getD 7 0) (l.getD 8 0) (l.getD 9 0) (l.getD 10 0) (l.getD 11 0) (l.getD 12 0) (l.getD 13 0) (l.getD 14 0) (l.getD 15 0) (l.getD 16 0) (l.getD 17 0) (l.getD 18 0) (l.getD 19 0) (l.getD 20 0) (l.getD 21 0) (l.getD 22 0) (l.getD 23 0) (l.getD 24 0) (l.getD 25 0) (l.getD 26 0) (l.getD 27 0) (l.getD 28 0) (l.getD 29 0) (l.getD 30 0) (l.getD 31 0)

/-- what a record's own fields say -/
structure OwnQ (x y : Rq) : Prop where
  dg : y.dg.length = 32
  word : ∀ seg off len, wordQ x seg off len = ⟨y.k, y.s, y.dg, y.nm, y.Z + (y.n : Int), seg, off, len⟩
  bd : -9223372036854775808 ≤ y.Z + (y.n : Int) ∧ y.Z + (y.n : Int) ≤ 9223372036854775807
  nl : y.n ≤ 2097152
theorem own_any (x : Rq) (w : World) (hx : x.Fit w) (hn : x.n ≤ 2097152) :
    Calls Try.prog 21 #[x.v] w fun e w' => ∃ y : Rq, e = .returned y.v ∧ OwnQ x y ∧ Below w.heap.size w w' := by
  by_cases hk : x.k < 1 ∨ x.k > 8
  · refine (own_out x w hx hk).mono ?_
    rintro e w' ⟨rfl, hb⟩
    refine ⟨_, rfl, ⟨rfl, fun seg off len => ?_, ?_, ?_⟩, hb⟩
    · unfold wordQ
      rw [if_pos hk]
      rfl
    · show _ ≤ (0 : Int) + ((0 : Nat) : Int) ∧ (0 : Int) + ((0 : Nat) : Int) ≤ _
      omega
    · exact Nat.zero_le _
  · refine (own_in x w hx (by omega)).mono ?_
    rintro e w' ⟨y, rfl, hf, he, hb, hy⟩
    refine ⟨_, rfl, ⟨hf.dg.1, fun seg off len => ?_, ?_, ?_⟩, hb⟩
    · have e1 : y.Z + (y.n : Int) = if x.k ≤ 2 then (x.n : Int) else if x.k = 6 ∨ x.k = 8 then x.Z else 0 := by
        rw [hy]
        unfold bareQ
        dsimp only
        by_cases h2 : x.k ≤ 2
        · rw [if_pos h2, if_pos h2, if_neg (by omega)]; omega
        · rw [if_neg h2, if_neg h2]; simp
      rw [e1]
      unfold wordQ
      rw [if_neg hk, hy]
      rfl
    · have hZ := hx.Z
      rw [hy]
      unfold bareQ
      dsimp only
      by_cases h2 : x.k ≤ 2
      · rw [if_pos h2, if_neg (by omega)]; omega
      · rw [if_neg h2]
        split <;> omega
    · rw [hy]
      show (if x.k ≤ 2 then x.n else 0) ≤ _
      split <;> omega

set_option maxRecDepth 100000 in
set_option maxHeartbeats 4000000 in
theorem cword_ok : cWordOk := by
  intro x seg off len w hx hn
  obtain ⟨wA, hA, hm, hb, c0, c1, _⟩ := box_rec w x hx.dg.1
  obtain ⟨wB, hB⟩ : ∃ W, wA.alloc (.cells #[.int .i64 seg, .int .i64 off, .int .i64 len] 29) = W := ⟨_, rfl⟩
  obtain ⟨wC, hC⟩ : ∃ W, wB.alloc (.cells (mixC wq0.a wq0.dg wq0.t) 39) = W := ⟨_, rfl⟩
  have hsA : wA.heap.size = w.heap.size + 1 := by rw [← hA]; simp
  have hsB : wB.heap.size = wA.heap.size + 1 := by rw [← hB]; simp
  have hbB : Below wA.heap.size wA wB := by rw [← hB]; exact (Below.refl _ _).alloc (Nat.le_refl _) _
  have hbC : Below wB.heap.size wB wC := by rw [← hC]; exact (Below.refl _ _).alloc (Nat.le_refl _) _
  have hrB : wB.heap[wA.heap.size]? = some (.cells #[.int .i64 seg, .int .i64 off, .int .i64 len] 29 (0, 0)) := by rw [← hB]; exact heap_alloc_new _ _
  have hmC : Wm wC wB.heap.size wq0 := by rw [← hC]; exact heap_alloc_new _ _
  obtain ⟨g1, hg1⟩ : ∃ g, wA.heap.size = g := ⟨_, rfl⟩
  obtain ⟨g2, hg2⟩ : ∃ g, wB.heap.size = g := ⟨_, rfl⟩
  have HG : Hid (g1 = w.heap.size + 1 ∧ g2 = g1 + 1) := Lib.hid (by omega)
  have HRC : Hid (Rm wC w.heap.size x) := Lib.hid ((hm.later hbB).later hbC)
  have HBC : Hid (Below w.heap.size w wC) := Lib.hid (below_step (below_step hb hbB) hbC)
  have HMC : Hid (Wm wC g2 wq0) := Lib.hid (by rw [← hg2]; exact hmC)
  have hrC := row_later hrB hbC
  rw [hg1] at hrC
  have HLC := Lib.hid hrC
  have HOW := Lib.hid fun W (hW : Below w.heap.size w W) => own_any x W (hx.later hW) hn
  have HLX := Lib.hid (HRC.out.load hx.dg.1)
  have HXD := Lib.hid hx.dg.1
  rw [wq0C] at hC
  unfold Rq.v at HOW ⊢
  unfold locV
  generalize hM : mixC x.a x.dg x.z = M at *
  clear hx hm hb hsA hsB hbB hbC hrB hmC hrC c0 c1 hn
  go_enter Try.func13, Try.ntmps13
  go_upto_region 2 with (first
    | (refine wpList_ld rfl _ _ rfl _ rfl _ HLX.out ?_)
    | (go_at_call 21; refine (HOW.out _ HBC.out).mono ?_; rintro e w2 ⟨y, rfl, hq2, hb2⟩; have HQ2 := Lib.hid hq2; have HB2 := Lib.hid (below_step HBC.out hb2); have HR2 : Hid (w2.heap[w.heap.size]? = some (.cells M 27 (0, 0))) := Lib.hid (by rw [← hM]; exact HRC.out.later hb2); have HW2 : Hid (Wm w2 g2 wq0) := Lib.hid (Mx.later HMC.out hb2); have HL2 := Lib.hid (row_later HLC.out hb2); have HSZ : Hid (M.size = (mixC y.a y.dg y.z).size) := Lib.hid (by rw [← hM]; exact Rq.sizes x y HXD.out hq2.dg); clear hq2 hb2)
    | (refine wpList_store_row rfl 27 _ _ rfl w.heap.size _ rfl rfl 27 _ HR2.out (Rq.sizeOf y HQ2.out.dg) HSZ.out y.one ?_; generalize hw3 : World.setRow _ _ _ = w3))
  have HR3 : Hid (Rm w3 w.heap.size y) := Lib.hid (by rw [← hw3]; exact Mx.row (show Mx w2 w.heap.size 27 x.a x.dg x.z from by rw [show Mx w2 w.heap.size 27 x.a x.dg x.z = (w2.heap[w.heap.size]? = some (.cells (mixC x.a x.dg x.z) 27 (0, 0))) from rfl, hM]; exact HR2.out))
  have HB3 : Hid (Below w.heap.size w w3) := Lib.hid (by rw [← hw3]; exact below_setRow8 HB2.out _ _ (Nat.le_refl _))
  have HW3 : Hid (Wm w3 g2 wq0) := Lib.hid (Mx.keep HW2.out (keep_row hw3 g2 (by have := HG.out; omega)))
  have HL3 : Hid (w3.heap[g1]? = some (.cells #[.int .i64 seg, .int .i64 off, .int .i64 len] 29 (0, 0))) := Lib.hid ((keep_row hw3 g1 (by have := HG.out; omega)).trans HL2.out)
  obtain ⟨l0, l1, l2, _⟩ := row3 HL3.out
  obtain ⟨d0, d1, d34, d35, _, d37⟩ := HR3.out.cells HQ2.out.dg
  have HLY := Lib.hid (Mx.loadDig (P := Try.prog) HR3.out 24 Try.underlying24 rfl (by rw [HQ2.out.dg]; exact size32) 2 rfl)
  obtain ⟨Q, hQ⟩ : ∃ Q, Q = (⟨y.k, y.s, y.dg, y.nm, y.Z + (y.n : Int), seg, off, len⟩ : Wq) := ⟨_, rfl⟩
  have HQD : Hid (Q.dg.length = 32) := Lib.hid (by rw [hQ]; exact HQ2.out.dg)
  have HBW : Try.prog.built 39 [(0, .int .i64 y.k), (1, .int .u64 y.s), (2, .agg (bcs y.dg)), (3, .string y.nm), (4, .int .i64 (y.Z + (y.n : Int))), (5, .agg #[.int .i64 seg, .int .i64 off, .int .i64 len])] = some (mixC Q.a Q.dg Q.t) := by
    have h := built_word Q HQD.out
    rw [hQ] at h ⊢
    exact h
  have HQQ := Lib.hid hQ
  have HWQ : Hid (wordQ x seg off len = Q) := Lib.hid (by rw [hQ]; exact HQ2.out.word _ _ _)
  have HBU := Lib.hid HBW
  have hbd := HQ2.out.bd
  have hnl := HQ2.out.nl
  have hwr : wrap64 (y.Z + (y.n : Int)) = y.Z + (y.n : Int) := by simp only [wrap64]; omega
  clear hQ HBW hw3
  go_wp2_with (first
    | (refine wpList_ld rfl _ _ rfl _ rfl _ HLY.out ?_)
    | (refine wpList_build_is rfl 39 _ rfl (mixC Q.a Q.dg Q.t) ?_ ?_; focus (simp only [List.map_toArray, List.map_cons, List.map_nil]; exact HBU.out))
    | (refine wpList_store_row rfl 39 _ _ rfl g2 _ rfl rfl 39 _ HW3.out (Wq.sizeOf Q HQD.out) (Wq.sizes wq0 Q rfl HQD.out) Q.one ?_; generalize hwZ : World.setRow _ _ _ = wZ))
  have HZ : Wm wZ g2 Q := by rw [← hwZ]; exact Mx.row HW3.out
  refine bodyPost_ret (HZ.res1 HQD.out rfl _ rfl) rfl ?_
  exact ⟨by rw [HWQ.out], by rw [← hwZ]; exact below_setRow8 HB3.out _ _ (by have := HG.out; omega)⟩
end Go.Proofs.Ythnlfgaljkfhaaa
