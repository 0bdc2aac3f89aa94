/- Layer 12, the program: fault, left, used; Layer 12, the program: used -/
import Derived.Test.YtncbgddgkpaoeaaGreatDd17
import Derived.Test.YtncbgddgkpaoeaaGreatDd18
import Derived.Lib.MinMax
set_option linter.unusedSimpArgs false
set_option linter.unusedVariables false
namespace Go.Proofs.YtncbgddgkpaoeaaGreat
set_option linter.unusedVariables false
open Go.RowKit Go.Lib Go.Maps

theorem dfault_nil (w : World) : Calls Tryz.prog 61 #[.pointer none] w fun e w' => e = .returned (.int .i64 1) ∧ w = w' := by
  go_enter Tryz.func61, Tryz.ntmps61
  go_wp2
  go_ret
  exact ⟨rfl, rfl⟩
theorem dfault_any {w : World} {D M : Nat} {d : Dk} {x : Fo} {fu : Int} {g : Int → Option Ni} (h : Dx w D M d x fu g) : Calls Tryz.prog 61 #[.pointer (some ⟨D, 0, none⟩)] w fun e w' => e = .returned (.int .i64 (if d.off then 11 else 0)) ∧ w = w' := by
  obtain ⟨_, _, _, _, _, _, _, c7, _⟩ := h.cells
  cases ho : d.off
  · rw [ho] at c7
    clear h
    go_enter Tryz.func61, Tryz.ntmps61
    go_wp2
    go_ret
    exact ⟨rfl, rfl⟩
  · rw [ho] at c7
    clear h
    go_enter Tryz.func61, Tryz.ntmps61
    go_wp2
    go_ret
    exact ⟨rfl, rfl⟩
theorem dleft_any (l u : Int) (w : World) (hl : InI l) (hu : 0 ≤ u ∧ u ≤ 1099511627776) : Calls Tryz.prog 60 #[.int .i64 l, .int .i64 u] w fun e w' => e = .returned (.int .i64 (leftP l u)) ∧ w = w' := by
  unfold InI at hl
  obtain ⟨m, hm⟩ : ∃ m, max l u = m := ⟨_, rfl⟩
  have hm1 : u ≤ m ∧ m ≤ 9223372036854775807 := by omega
  have HL : Hid (leftP l u = m - u) := Lib.hid (by unfold leftP; rw [hm])
  go_enter Tryz.func60, Tryz.ntmps60
  go_wp2
  go_ret
  exact ⟨by rw [HL.out]; rfl, rfl⟩
end Go.Proofs.YtncbgddgkpaoeaaGreat

namespace Go.Proofs.YtncbgddgkpaoeaaGreat
set_option linter.unusedVariables false
open Go.RowKit Go.Lib Go.Maps

/-- the room of the files that are still to come -/
def restK (K : List Kt) (left : Lit → Bool) : Int := usedK (K.filter fun k => left (keyI k.id))
theorem restK_all {K : List Kt} {left : Lit → Bool} (h : ∀ k ∈ K, left (keyI k.id) = true) : restK K left = usedK K := by
  unfold restK
  rw [List.filter_eq_self.2 h]
theorem restK_none {K : List Kt} {left : Lit → Bool} (h : ∀ kl, left kl = false) : restK K left = 0 := by
  unfold restK
  rw [List.filter_eq_nil_iff.2 (fun k _ => by simp [h])]
  rfl
theorem restK_pos (K : List Kt) (left : Lit → Bool) : 0 ≤ restK K left := usedK_pos _
theorem restK_miss {K : List Kt} {left : Lit → Bool} {i : Int} (h : i ∉ idK K) : restK K (fun z => left z && !z.sameKey (keyI i)) = restK K left := by
  unfold restK
  congr 1
  apply List.filter_congr
  intro k hk
  have e : k.id ≠ i := fun e => h (by rw [← e]; exact List.mem_map_of_mem hk)
  dsimp only
  rw [sameKey_ne (keyI_ne e)]
  simp
theorem restK_step {K : List Kt} (hK : irises (idK K)) {left : Lit → Bool} {i : Int} (hi : InI i) {x : Fi} (h : getK K i = some x) (hl : left (keyI i) = true) :
    roomP x + restK K (fun z => left z && !z.sameKey (keyI i)) = restK K left := by
  induction K with
  | nil => cases h
  | cons k K ih =>
    have hne := irises_ne hK
    have hK' : irises (idK K) := (List.pairwise_cons.1 hK).2
    rw [getK] at h
    by_cases e : k.id = i
    · rw [if_pos e] at h
      obtain rfl := Option.some.inj h
      subst e
      have h1 := restK_miss (K := K) (left := left) (i := k.id) hne
      unfold restK at h1 ⊢
      rw [List.filter_cons, List.filter_cons, if_pos hl, if_neg (by dsimp only; rw [WideAt.sameKey_self (keyI_is hi)]; simp), h1]
      rfl
    · rw [if_neg e] at h
      have h1 := ih hK' h
      have h2 : (left (keyI k.id) && !(keyI k.id).sameKey (keyI i)) = left (keyI k.id) := by rw [sameKey_ne (keyI_ne e)]; simp
      unfold restK at h1 ⊢
      rw [List.filter_cons, List.filter_cons]
      dsimp only at h1 ⊢
      by_cases hq : left (keyI k.id) = true
      · rw [if_pos (by rw [h2]; exact hq), if_pos hq, usedK, usedK, ← h1]; omega
      · rw [if_neg (by rw [h2]; exact hq), if_neg hq]; exact h1

theorem grown_of_below {w w' : World} (hb : Below w.heap.size w w') : w.grownBy w' none := ⟨hb.os, hb.tape, hb.output, hb.size, fun k hk _ => hb.block k hk⟩
theorem ranges_later {w w' : World} {M R n : Nat} {D : DataW Value} {left : Lit → Bool} {cnt : Nat} (h : w.ranges Tryz.prog TE RV M R n D left cnt) (hb : Below w.heap.size w w') : w'.ranges Tryz.prog TE RV M R n D left cnt := h.kept (grown_of_below hb) (by simp) (by simp)
set_option maxRecDepth 100000 in
set_option maxHeartbeats 2000000 in
theorem dused_any {w : World} {D M m : Nat} {d : Dk} {x : Fo} {fu : Int} {g : Int → Option Ni} (h : Dx w D M d x fu g) (ho : d.Ok m) (hm : m ≤ 1048575) : Calls Tryz.prog 55 #[.pointer (some ⟨D, 0, none⟩)] w fun e w' => e = .returned (.int .i64 (usedK d.K)) ∧ Below w.heap.size w w' := by
  obtain ⟨_, _, _, _, c4, _, _, _, _⟩ := h.cells
  have HU := Lib.hid (ho.used hm)
  have HR := Lib.hid ho.rises
  have HFI := Lib.hid fun i => ho.fi hm i
  have HX := Lib.hid h
  obtain ⟨h0, D0, hown, hd⟩ := h.m
  have HD := Lib.hid hd
  have H0 := Lib.hid h0
  have HOWN := Lib.hid hown
  have HST : Hid (restK d.K (has D0) = usedK d.K) := Lib.hid (restK_all fun k hk => by
    obtain ⟨z, hz⟩ := getK_some (K := d.K) (i := k.id) (List.mem_map_of_mem hk)
    have h1 := h.k k.id
    rw [hz] at h1
    obtain ⟨y, hy, _⟩ := Option.map_eq_some_iff.1 h1
    rw [(hd k.id (h0 _ _ hy)).1, hy]
    rfl)
  clear h ho hown hd h0
  go_enter Tryz.func55, Tryz.ntmps55
  go_wp2_with (at_range; refine wpList_range_own _ rfl _ TD rfl TE TV lawI undD _ M d.K.length D0 rfl HOWN.out ?_; intro w0 hrg0 hg0 hs0; have HRG0 := Lib.hid hrg0; have HG0 := Lib.hid hg0; clear hrg0 hg0 hs0)
  go_frame
  obtain ⟨R, hR⟩ : ∃ R, w.heap.size = R := ⟨_, rfl⟩
  have HSR : Hid (w.heap.size = R) := Lib.hid hR
  rw [hR] at HRG0
  simp only [hR]
  clear hR c4
  go_loopw [3] (fun v wr => ∃ (left : Lit → Bool) (cnt : Nat) (s : Int), wr.ranges Tryz.prog TE RV M R d.K.length D0 left cnt ∧ v = .int .i64 s ∧ 0 ≤ s ∧ s ≤ 1099511627776 ∧ Hid (s + restK d.K left = usedK d.K) ∧ Hid (Below R w wr))
    (fun _ wr => wr.rangeLeft M R)
  case atStart =>
    exact ⟨_, _, 0, HRG0.out, rfl, by omega, by omega, Lib.hid (by rw [HST.out]; omega), Lib.hid ((Below.refl _ _).grown HG0.out (by rw [HSR.out]; exact Nat.le_refl _) (fun j hj => by cases hj))⟩
  case round =>
    obtain ⟨left, cnt, s, hrg, rfl, hs0, hs1, HS, HB⟩ := hrel
    have HRG := Lib.hid hrg
    clear hrg HG0 HRG0
    go_wp2_with (at_next; refine wpList_next_ranges _ rfl _ rfl TE lawI RV (Value.int .i64) Sv.v (fun key kl hk => by obtain ⟨x, hx, _⟩ := Maps.keyOf_int_inv undE hk; exact ⟨x, hx⟩) (fun v y hv => (RV_inv hv).1) M R d.K.length D0 left cnt rfl HRG.out ?_ ?_)
    · intro hc0 hl0
      have hz := restK_none (K := d.K) hl0
      have hss := HS.out
      rw [hz] at hss
      obtain rfl : s = usedK d.K := by omega
      clear hss hz
      go_wp2
      go_ret
      exact ⟨rfl, by rw [HSR.out]; exact HB.out⟩
    · intro i c kl yd yp w1 cnt1 hkey hlk hv hat hrg hlt hg hs hen
      obtain ⟨i', ei, hkl, hwf⟩ := Maps.keyOf_int_inv undE hkey
      simp only [Value.int.injEq, true_and] at ei
      subst ei
      have hkI : kl = keyI i := hkl
      subst hkI
      have hi : InI i := wfI hwf
      have hle := HRG.out.owns
      obtain ⟨y, hy⟩ : ∃ y, g i = some y := by
        have h1 := (HD.out i hi).1
        rw [has_true_of_atKey hat] at h1
        exact Option.isSome_iff_exists.1 h1.symm
      have hyv : y.v = c.v := by
        have h1 := (HD.out i hi).2 y hy .nil
        rw [hat .nil] at h1
        have h2 := congrArg Prod.fst (RV_inv hv).2
        simp only at h2
        rw [h2] at h1
        simpa using h1.symm
      obtain ⟨cp, cn, cc, cq, cm, cd⟩ := c
      obtain ⟨yp', yn, yc, yq, ym, yd', yz, yL⟩ := y
      simp only [Ni.v, Sv.v, Value.agg.injEq, Array.mk.injEq, List.cons.injEq, Value.slice.injEq, and_true] at hyv
      obtain ⟨⟨rfl, rfl, rfl⟩, rfl, rfl, rfl⟩ := hyv
      have HB1 : Hid (Below R w w1) := Lib.hid (HB.out.grown hg (Nat.le_of_lt HRG.out.lt) (fun j hj => by cases hj; exact Nat.le_refl _))
      have HRW : Hid (R ≤ w1.heap.size) := Lib.hid (Nat.le_of_lt hrg.lt)
      obtain ⟨wB, hwB⟩ : ∃ W, w1.alloc (.cells #[.slice yp' yn yc, .slice yq ym yd'] 73) = W := ⟨_, rfl⟩
      have HWB : Hid (Below w1.heap.size w1 wB) := Lib.hid (by rw [← hwB]; exact (Below.refl _ _).alloc (Nat.le_refl _) _)
      have HB2 : Hid (Below R w wB) := Lib.hid (HB1.out.trans (HWB.out.mono HRW.out))
      have HFB : Hid (Ni.fit wB ⟨yp', yn, yc, yq, ym, yd', yz, yL⟩) := Lib.hid ((HX.out.n i _ hy).later (HB2.out.mono (by rw [HSR.out]; exact Nat.le_refl _)))
      have hfk : getK d.K i = some (Ni.fi ⟨yp', yn, yc, yq, ym, yd', yz, yL⟩) := by rw [← HX.out.k i, hy]; rfl
      have HFO : Hid ((Ni.fi ⟨yp', yn, yc, yq, ym, yd', yz, yL⟩).ok) := Lib.hid (by
        have := HFI.out i
        unfold atK at this
        rw [hfk] at this
        exact this)
      have hst := restK_step HR.out hi hfk hlk
      have hp0 := roomP_pos (Ni.fi ⟨yp', yn, yc, yq, ym, yd', yz, yL⟩)
      have hrp := restK_pos d.K (fun z => left z && !z.sameKey (keyI i))
      have HRO := Lib.hid fun W hW => iroom_any ⟨yp', yn, yc, yq, ym, yd', yz, yL⟩ W hW HFO.out
      unfold Ni.v at HRO
      generalize roomP (Ni.fi ⟨yp', yn, yc, yq, ym, yd', yz, yL⟩) = rr at *
      have HS2 : Hid (s + rr + restK d.K (fun z => left z && !z.sameKey (keyI i)) = usedK d.K) := Lib.hid (by have := HS.out; omega)
      have hs2 : s + rr ≤ 1099511627776 := by have := HS.out; have := HU.out; omega
      have HRG2 := Lib.hid (ranges_later hrg HWB.out)
      have HLT := Lib.hid hlt
      clear hkey hlk hv hat hrg hlt hg hs hfk hst hrp hy hwf hi hkl hle HS
      have hcB := Iw.cells (show Iw wB w1.heap.size ⟨yp', yn, yc, yq, ym, yd', [], []⟩ by unfold Iw; rw [← hwB]; exact heap_alloc_new _ _)
      obtain ⟨i0, i1⟩ := hcB
      simp only [Sv.v] at *
      go_wp2_with (go_at_call 54; refine (HRO.out _ HFB.out).mono ?_; rintro e w2 ⟨rfl, hb2⟩; have HB3 := Lib.hid hb2; clear hb2)
      have HRG3 := Lib.hid (ranges_later HRG2.out HB3.out)
      have HB4 : Hid (Below R w w2) := Lib.hid (HB2.out.trans (HB3.out.mono (Nat.le_trans HRW.out HWB.out.size)))
      clear hwB hen
      refine ⟨?_, by rw [HRG3.out.left_eq, HRG.out.left_eq]; exact HLT.out⟩
      first
        | exact ⟨_, cnt1, s + rr, HRG3.out, by go_num, by omega, by omega, HS2, HB4⟩
        | ((repeat apply Exists.intro); refine ⟨?_, rfl⟩; exact ⟨_, cnt1, s + rr, HRG3.out, by go_num, by omega, by omega, HS2, HB4⟩)
end Go.Proofs.YtncbgddgkpaoeaaGreat
