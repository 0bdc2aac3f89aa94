/- Layer 12, the reference: Bytes, Read -/
import Derived.Test.YtncbgddgkpaoeaaGreatDd36
set_option linter.unusedSimpArgs false
set_option linter.unusedVariables false
namespace Go.Proofs.YtncbgddgkpaoeaaGreat
set_option linter.unusedVariables false
open Go.RowKit Go.Lib

set_option maxRecDepth 100000 in
set_option maxHeartbeats 2000000 in
theorem rbytes12_any {w : World} {D m : Nat} {d : Dk} {x : Fo} {p : Option Addr} {n c : Nat} {L : List Kr} (h : Rx w D d x p n c L) (ho : d.Ok m) (hm : m ≤ 1048575) (s : ByteArray) :
    Calls Tryz.prog 44 #[.pointer (some ⟨D, 0, none⟩), .string s] w fun e w' => ∃ p k c, e = .returned (.tuple #[.slice p k c, .int .i64 (bytesP d s).2]) ∧ Bs w' p k (bytesP d s).1 ∧ (p = none → c = 0) ∧ k ≤ c ∧ c ≤ maxLen ∧ k ≤ 2097152 ∧ Below w.heap.size w w' := by
  obtain ⟨_, _, c2, c3, c4, _, c6, _⟩ := h.b.cells
  have hn : n ≤ 2097152 := by have := (h.len ho).1; omega
  have HX := Lib.hid h
  have HOF := Lib.hid fun i => ho.fi hm i
  have HAT := Lib.hid fun i => nowP_le (ho.at' i).1
  have HFD : Hid (x.fd.ok) := Lib.hid (by rw [h.fd]; exact ho.fd hm)
  have HFI := Lib.hid (rffind_any x s w h.f HFD.out)
  rw [h.fd] at HFI
  have HGE := Lib.hid fun W (hW : Below w.heap.size w W) i => rget12_any (h.later hW) hn i
  unfold Fo.v at HFI
  unfold bytesP
  by_cases hof : d.off = true
  · rw [hof] at c6
    rw [if_pos hof]
    clear h ho
    go_enter Tryz.func44, Tryz.ntmps44
    go_wp2
    go_ret2
    exact ⟨none, 0, 0, rfl, Bs.empty _ _, fun _ => rfl, Nat.le_refl _, Nat.zero_le _, by omega, Below.refl _ _⟩
  · rw [Bool.not_eq_true] at hof
    rw [hof] at c6
    rw [if_neg (by rw [hof]; decide)]
    cases hf : findP (nowQ d.F) s with
    | none =>
      rw [hf] at HFI
      unfold fndV at HFI
      dsimp only at HFI ⊢
      clear h ho hf
      go_enter Tryz.func44, Tryz.ntmps44
      go_wp2_with (go_at_call 32; refine HFI.out.mono ?_; rintro e w2 ⟨rfl, hb2⟩; have HB2 := Lib.hid hb2; clear hb2)
      go_ret2
      exact ⟨none, 0, 0, rfl, Bs.empty _ _, fun _ => rfl, Nat.le_refl _, Nat.zero_le _, by omega, HB2.out⟩
    | some i =>
      rw [hf] at HFI
      unfold fndV at HFI
      dsimp only at HFI ⊢
      have HO := Lib.hid (HOF.out i)
      have HLE := Lib.hid (HAT.out i)
      have HGF := Lib.hid fun W (hW : Below w.heap.size w W) => HGE.out W hW i
      generalize atK d.K i = X at *
      clear h ho hf
      go_enter Tryz.func44, Tryz.ntmps44
      go_wp2_with (first
        | (go_at_call 32; refine HFI.out.mono ?_; rintro e w2 ⟨rfl, hb2⟩; have HB2 := Lib.hid hb2; have HG2 := Lib.hid (HGF.out w2 hb2); clear hb2)
        | (go_at_call 78; refine HG2.out.mono ?_; rintro e w3 ⟨y, rfl, _, hy, hyf, hb3⟩
           obtain ⟨yp, yn, yc, yq, ym, yd, yz, yL⟩ := y
           unfold Ni.v
           dsimp only
           have HB3 := Lib.hid (below_step HB2.out hb3)
           obtain ⟨wB, hwB⟩ : ∃ W, w3.alloc (.cells #[.slice yp yn yc, .slice yq ym yd] 73) = W := ⟨_, rfl⟩
           obtain ⟨G, hG⟩ : ∃ G, w3.heap.size = G := ⟨_, rfl⟩
           have HBB : Hid (Below w3.heap.size w3 wB) := Lib.hid (by rw [← hwB]; exact (Below.refl _ _).alloc (Nat.le_refl _) _)
           have HB4 := Lib.hid (below_step HB3.out HBB.out)
           have hrow : wB.heap[G]? = some (.cells #[.slice yp yn yc, .slice yq ym yd] 73 (0, 0)) := by rw [← hwB, ← hG]; exact heap_alloc_new _ _
           have g0 : wB.cell? ⟨G, 0, none⟩ = some (.slice yp yn yc) := by rw [cell_of_row _ _ _ _ _ _ hrow]; rfl
           have g1 : wB.cell? ⟨G, 1, none⟩ = some (.slice yq ym yd) := by rw [cell_of_row _ _ _ _ _ _ hrow]; rfl
           have HAL := Lib.hid (rnow_any ⟨yp, yn, yc, yq, ym, yd, yz, yL⟩ wB ((hy.later hb3).later HBB.out) (by rw [hyf]; exact HO.out))
           rw [hyf] at HAL
           dsimp only at HAL
           clear hy hyf hb3 hrow)
        | (go_at_call 79; refine HAL.out.mono ?_; rintro e w5 ⟨v5, rfl, ho5, hb5⟩
           obtain ⟨p5, c5, hv5, hl5, hm5, hbs5, hpn5⟩ := ho5.open
           subst hv5
           have HB5 := Lib.hid (below_step HB4.out hb5)
           have HBS := Lib.hid hbs5
           have HPN := Lib.hid hpn5
           have HL5 := Lib.hid hl5
           have HM5 := Lib.hid hm5
           clear ho5 hb5 hbs5 hpn5 hl5 hm5))
      go_ret2
      exact ⟨p5, _, c5, rfl, HBS.out, HPN.out, HL5.out, HM5.out, Nat.le_trans HLE.out (by omega), HB5.out⟩

set_option maxRecDepth 100000 in
set_option maxHeartbeats 2000000 in
theorem rread12_any {w : World} {D m : Nat} {d : Dk} {x : Fo} {p : Option Addr} {n c : Nat} {L : List Kr} (h : Rx w D d x p n c L) (ho : d.Ok m) (hm : m ≤ 1048575) (s : ByteArray) (o k : Int) (hio : InI o) (hik : InI k) :
    Calls Tryz.prog 43 #[.pointer (some ⟨D, 0, none⟩), .string s, .int .i64 o, .int .i64 k] w fun e w' => ∃ p l c, e = .returned (.tuple #[.slice p l c, .int .i64 (readP d s o k).2]) ∧ Bs w' p l (readP d s o k).1 ∧ (p = none → c = 0) ∧ l ≤ c ∧ l ≤ 2097152 ∧ Below w.heap.size w w' := by
  have HBY := Lib.hid (rbytes12_any h ho hm s)
  have HR : Hid (readP d s o k = (if (bytesP d s).2 ≠ 0 then (([] : List Int), (bytesP d s).2) else if o < 0 ∨ k < 0 ∨ ((bytesP d s).1.length : Int) - o < k then ([], 20) else (((bytesP d s).1.drop o.toNat).take k.toNat, 0))) := Lib.hid rfl
  generalize readP d s o k = R at *
  generalize bytesP d s = B at *
  obtain ⟨b, e⟩ := B
  dsimp only at HBY HR
  clear h ho
  unfold InI at hio hik
  by_cases he : e = 0
  · subst he
    have HR := Lib.hid (HR.out.trans (if_neg (by simp)))
    by_cases hbad : o < 0 ∨ k < 0 ∨ (b.length : Int) - o < k
    · have HR := Lib.hid (HR.out.trans (if_pos hbad))
      have HBAD := Lib.hid hbad
      clear hbad
      by_cases h1 : o < 0
      · have k1 : decide (o < 0) = true := decide_eq_true h1
        go_enter Tryz.func43, Tryz.ntmps43
        go_wp2_with (go_at_call 44; refine HBY.out.mono ?_; rintro e w2 ⟨p, k', c, rfl, hb, hpn, hkc, hcm, hkl, hb2⟩; have HB := Lib.hid hb; have HB2 := Lib.hid hb2; clear hb hb2)
        go_ret2
        rw [HR.out]
        exact ⟨none, 0, 0, rfl, Bs.empty _ _, fun _ => rfl, Nat.le_refl _, by omega, HB2.out⟩
      · have k1 : decide (o < 0) = false := decide_eq_false h1
        by_cases h2 : k < 0
        · have k2 : decide (k < 0) = true := decide_eq_true h2
          go_enter Tryz.func43, Tryz.ntmps43
          go_wp2_with (go_at_call 44; refine HBY.out.mono ?_; rintro e w2 ⟨p, k', c, rfl, hb, hpn, hkc, hcm, hkl, hb2⟩; have HB := Lib.hid hb; have HB2 := Lib.hid hb2; clear hb hb2)
          go_ret2
          rw [HR.out]
          exact ⟨none, 0, 0, rfl, Bs.empty _ _, fun _ => rfl, Nat.le_refl _, by omega, HB2.out⟩
        · have k2 : decide (k < 0) = false := decide_eq_false h2
          by_cases h4 : o > (b.length : Int)
          · go_enter Tryz.func43, Tryz.ntmps43
            go_wp2_with (go_at_call 44; refine HBY.out.mono ?_; rintro e w2 ⟨p, k', c, rfl, hb, hpn, hkc, hcm, hkl, hb2⟩; have hbl := hb.1; have HB := Lib.hid hb; have HB2 := Lib.hid hb2; have k3 : decide (o > (k' : Int)) = true := (by simp; omega); have k4 : decide ((k' : Int) < o) = true := (by simp; omega); clear hb hb2 hbl h4)
            go_ret2
            rw [HR.out]
            exact ⟨none, 0, 0, rfl, Bs.empty _ _, fun _ => rfl, Nat.le_refl _, by omega, HB2.out⟩
          · have h3 : (b.length : Int) - o < k := by have := HBAD.out; omega
            have hw : ∀ z : Nat, z ≤ 2097152 → IntKind.i64.wrap ((z : Int) - o) = (z : Int) - o := fun z hz => by rw [IntKind.wrap_i64]; omega
            have HW := Lib.hid hw
            clear hw
            go_enter Tryz.func43, Tryz.ntmps43
            go_wp2_with (go_at_call 44; refine HBY.out.mono ?_; rintro e w2 ⟨p, k', c, rfl, hb, hpn, hkc, hcm, hkl, hb2⟩; have hbl := hb.1; have HB := Lib.hid hb; have HB2 := Lib.hid hb2; have k3 : decide (o > (k' : Int)) = false := (by simp; omega); have k4 : decide ((k' : Int) < o) = false := (by simp; omega); have k5 : decide (k > (k' : Int) - o) = true := (by simp; omega); have k6 : decide ((k' : Int) - o < k) = true := (by simp; omega); have k7 := HW.out k' hkl; clear hb hb2 hbl h3 h4)
            go_ret2
            rw [HR.out]
            exact ⟨none, 0, 0, rfl, Bs.empty _ _, fun _ => rfl, Nat.le_refl _, by omega, HB2.out⟩
    · have HR := Lib.hid (HR.out.trans (if_neg hbad))
      obtain ⟨a, rfl⟩ := Int.eq_ofNat_of_zero_le (show 0 ≤ o by omega)
      obtain ⟨t, rfl⟩ := Int.eq_ofNat_of_zero_le (show 0 ≤ k by omega)
      have h3 : a + t ≤ b.length := by omega
      simp only [Int.toNat_natCast] at HR
      clear hbad
      go_enter Tryz.func43, Tryz.ntmps43
      go_wp2_with (go_at_call 44; refine HBY.out.mono ?_; rintro e w2 ⟨p, k', c, rfl, hb, hpn, hkc, hcm, hkl, hb2⟩; have hbl := hb.1; rw [hbl] at h3; obtain ⟨p', hsl, hbs, hpp⟩ := hb.slice_lh (P := Tryz.prog) 32 5 Tryz.underlying32 Tryz.sizeOf5 c a (a + t) hkc (by omega) h3; rw [Int.natCast_add] at hsl; rw [Nat.add_sub_cancel_left] at hsl hbs; have HBS := Lib.hid hbs; have HPP := Lib.hid (hpp hpn); have HB2 := Lib.hid hb2; have k3 : decide ((a : Int) > (k' : Int)) = false := (by simp; omega); have k4 : decide ((k' : Int) < (a : Int)) = false := (by simp; omega); have k5 : decide ((t : Int) > (k' : Int) - (a : Int)) = false := (by simp; omega); have k6 : decide ((k' : Int) - (a : Int) < (t : Int)) = false := (by simp; omega); clear hb hb2 hbl hbs hpp)
      go_ret2
      rw [HR.out]
      exact ⟨p', t, c - a, rfl, HBS.out, HPP.out, by omega, by omega, HB2.out⟩
  · have HR := Lib.hid (HR.out.trans (if_pos he))
    have q : (e != 0) = true := by simpa using he
    clear he
    go_enter Tryz.func43, Tryz.ntmps43
    go_wp2_with (go_at_call 44; refine HBY.out.mono ?_; rintro e2 w2 ⟨p2, l2, c2, rfl, _, _, _, _, _, hb2⟩; have HB2 := Lib.hid hb2; clear hb2)
    go_ret2
    rw [HR.out]
    exact ⟨none, 0, 0, rfl, Bs.empty _ _, fun _ => rfl, Nat.le_refl _, by omega, HB2.out⟩
end Go.Proofs.YtncbgddgkpaoeaaGreat
