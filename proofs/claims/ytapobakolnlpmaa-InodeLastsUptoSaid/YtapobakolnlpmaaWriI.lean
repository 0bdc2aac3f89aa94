/- Layer 9: the program's change. -/
import Derived.Test.YtapobakolnlpmaaWriH
namespace Go.Proofs.Ytapobakolnlpmaa
set_option linter.unusedVariables false
open Go.RowKit Go.Lib

theorem slice_to_any {P : Program} (W : World) (t e : TypeId) (ht : P.underlying t = some (.slice e)) (hz : ∀ w, (Go.sizeOf e).run P w = .ok 1 w) (B : Nat) (w0 : World) (p : Option Addr) (len cap m : Nat) (zs : List Int) (h : Ob w0 B e (.slice p len cap) zs) (hm : m ≤ len) :
    (Instr.slice t (.slice p len cap) none (some (.int .i64 (m : Int))) none).run P W = .ok (.slice p m cap) W := by
  rcases h.2.2 with ⟨hv, h0⟩ | ⟨g, cap', cur, hv, hB, hg, hn, hc, hs, ht'⟩
  · simp only [Value.slice.injEq] at hv
    obtain ⟨rfl, rfl, rfl⟩ := hv
    obtain rfl : m = 0 := by omega
    have ht' : P.underlying t = some (.slice (P.elem t)) := by simp [Program.elem, ht]
    have he : P.elem t = e := by simp [Program.elem, ht]
    rw [run_slice_h W t _ _ _ ht' .i64 _ (by omega) (by omega), he, hz]
    simp [Result.andThen, sliced]
  · simp only [Value.slice.injEq] at hv
    obtain ⟨rfl, hl, rfl⟩ := hv
    exact run_slice_to W t e ht hz g 0 len cap m (by omega)

theorem Cw.lt {w : World} {B : Nat} {c : Ch} {p : Option Addr} {n cap : Nat} (h : Cw w B c p n cap) : B < w.heap.size := by
  unfold Cw at h
  exact (Array.getElem?_eq_some_iff.1 h).1

set_option maxRecDepth 100000 in
set_option maxHeartbeats 4000000 in
theorem wchange_any (w0 : World) (v : Value) (zs : List Int) (c : Ch) (p : Option Addr) (n cap : Nat) (w : World) (hb : Below w0.heap.size w0 w) (ho : Ob w w0.heap.size 5 v zs) (hc : chIn w0 c p n cap) (hl : zs.length ≤ 2097152) :
    Calls Try.prog 31 #[v, chV c p n cap] w fun e w' => ∃ v', e = .returned v' ∧ Ob w' w0.heap.size 5 v' (appP zs c c.dat.length) ∧ Below w0.heap.size w0 w' := by
  have HSW : Hid (w0.heap.size ≤ w.heap.size) := Lib.hid hb.size
  have HB0 : Hid (Below w0.heap.size w0 (w.alloc (.cells #[.bool c.cut, .int .i64 c.off, .slice p n cap] 48))) := Lib.hid (hb.alloc hb.size _)
  have HX0 : Hid (Below w.heap.size w (w.alloc (.cells #[.bool c.cut, .int .i64 c.off, .slice p n cap] 48))) := Lib.hid ((Below.refl _ _).alloc (Nat.le_refl _) _)
  have HC0 : Hid (Cw (w.alloc (.cells #[.bool c.cut, .int .i64 c.off, .slice p n cap] 48)) w.heap.size c p n cap) := Lib.hid (heap_alloc_new _ _)
  have HS0 : Hid (w.heap.size + 1 ≤ (w.alloc (.cells #[.bool c.cut, .int .i64 c.off, .slice p n cap] 48)).heap.size) := Lib.hid (by simp)
  have H := Lib.hid hc
  have HO := Lib.hid ho
  obtain ⟨p3, c3, hv3, hlc3, hcm3, _, _⟩ := ho.open
  subst hv3
  have hcl := HC0.out.cells
  have HDL := Lib.hid hc.1.1
  have hcm := hc.2.2.2.1
  have hnc := hc.2.2.1
  cases hr : rightP c
  · have HF : Hid (appP zs c c.dat.length = zs) := Lib.hid (by unfold appP; rw [if_pos hr])
    have HRT : Hid (∀ W, chIn W c p n cap → Calls Try.prog 32 #[.agg #[.bool c.cut, .int .i64 c.off, .slice p n cap]] W fun e w' => e = .returned (.bool false) ∧ W.alloc (.cells #[.bool c.cut, .int .i64 c.off, .slice p n cap] 48) = w') := Lib.hid fun W hW => by
      have h := wright_any c p n cap W hW
      rwa [hr] at h
    clear hc ho hr hlc3 hcm3
    unfold chV
    obtain ⟨h0, h1, h2⟩ := hcl
    go_enter Try.func31, Try.ntmps31
    go_wp2_with fail
    refine (HRT.out _ (H.out.later HB0.out)).mono ?_
    rintro e w1 ⟨rfl, hw1⟩
    have HB1 : Hid (Below w0.heap.size w0 w1) := Lib.hid (by rw [← hw1]; exact HB0.out.alloc HB0.out.size _)
    have HX1 : Hid (Below w.heap.size w w1) := Lib.hid (by rw [← hw1]; exact HX0.out.alloc HX0.out.size _)
    clear hw1 h0 h1 h2 HC0 HS0 HB0 HX0
    go_wp2
    go_ret
    exact ⟨_, rfl, by rw [HF.out]; exact HO.out.later HX1.out, HB1.out⟩
  · have hro := hr
    unfold rightP at hro
    obtain ⟨o0, o1⟩ := of_decide_eq_true hro
    rw [hc.1.1] at o1
    obtain ⟨o, ho'⟩ : ∃ o : Nat, c.off = (o : Int) := ⟨c.off.toNat, by omega⟩
    have hon : o + n ≤ 1048576 := by omega
    have HRT : Hid (∀ W, chIn W c p n cap → Calls Try.prog 32 #[.agg #[.bool c.cut, .int .i64 c.off, .slice p n cap]] W fun e w' => e = .returned (.bool true) ∧ W.alloc (.cells #[.bool c.cut, .int .i64 c.off, .slice p n cap] 48) = w') := Lib.hid fun W hW => by
      have h := wright_any c p n cap W hW
      rwa [hr] at h
    have HOF := Lib.hid ho'
    cases hcut : c.cut
    · by_cases hn0 : n = 0
      · have HF : Hid (appP zs c c.dat.length = zs) := Lib.hid (by
          unfold appP
          rw [if_neg (by rw [hr]; simp), if_neg (by rw [hcut]; simp)]
          rw [hc.1.1, hn0, List.take_zero, putP_nil])
        have HCUT := Lib.hid hcut
        have hn0' : ((n : Int) == 0) = true := by simp [hn0]
        clear hro o0 o1 hr hc ho hcut ho' hn0
        unfold chV
        obtain ⟨h0, h1, h2⟩ := hcl
        go_enter Try.func31, Try.ntmps31
        go_wp2_with fail
        refine (HRT.out _ (H.out.later HB0.out)).mono ?_
        rintro e w1 ⟨rfl, hw1⟩
        have HB1 : Hid (Below w0.heap.size w0 w1) := Lib.hid (by rw [← hw1]; exact HB0.out.alloc HB0.out.size _)
        have HX1 : Hid (Below w.heap.size w w1) := Lib.hid (by rw [← hw1]; exact HX0.out.alloc HX0.out.size _)
        have HC1 : Hid (Cw w1 w.heap.size c p n cap) := Lib.hid (HC0.out.keep (by rw [← hw1]; exact (Below.refl _ _).alloc HS0.out _))
        clear hw1 h0 h1 h2 HC0 HS0 HB0 HX0
        have hc1 := HC1.out.cells
        rw [HCUT.out, HOF.out] at hc1
        obtain ⟨h0, h1, h2⟩ := hc1
        go_wp2
        go_ret
        exact ⟨_, rfl, by rw [HF.out]; exact HO.out.later HX1.out, HB1.out⟩
      · have HF : Hid (appP zs c c.dat.length = putP zs o c.dat) := Lib.hid (by
          unfold appP
          rw [if_neg (by rw [hr]; simp), if_neg (by rw [hcut]; simp), ho', List.take_length]
          rfl)
        have HNE : Hid (c.dat ≠ []) := Lib.hid (fun h => hn0 (by rw [← hc.1.1, h]; rfl))
        have HPC := Lib.hid (put_code zs c.dat o HNE.out)
        rw [hc.1.1] at HPC
        have HCUT := Lib.hid hcut
        have hn0' : ((n : Int) == 0) = false := by simpa using hn0
        have hn1 : 0 < n := Nat.pos_of_ne_zero hn0
        have HN1 := Lib.hid hn1
        clear hro o0 o1 hr hc ho hcut ho' hn0
        unfold chV
        obtain ⟨h0, h1, h2⟩ := hcl
        by_cases hmore : o + n ≤ zs.length
        · have hgt : decide ((o : Int) + (n : Int) - (zs.length : Int) > 0) = false := by simp; omega
          have hrep : o + n - zs.length = 0 := by omega
          rw [hrep, List.replicate_zero, List.append_nil] at HPC
          clear hrep
          go_enter Try.func31, Try.ntmps31
          go_wp2_with fail
          refine (HRT.out _ (H.out.later HB0.out)).mono ?_
          rintro e w1 ⟨rfl, hw1⟩
          have HB1 : Hid (Below w0.heap.size w0 w1) := Lib.hid (by rw [← hw1]; exact HB0.out.alloc HB0.out.size _)
          have HX1 : Hid (Below w.heap.size w w1) := Lib.hid (by rw [← hw1]; exact HX0.out.alloc HX0.out.size _)
          have HC1 : Hid (Cw w1 w.heap.size c p n cap) := Lib.hid (HC0.out.keep (by rw [← hw1]; exact (Below.refl _ _).alloc HS0.out _))
          clear hw1 h0 h1 h2 HC0 HS0 HB0 HX0
          have hc1 := HC1.out.cells
          rw [HCUT.out, HOF.out] at hc1
          obtain ⟨h0, h1, h2⟩ := hc1
          obtain ⟨g, rfl⟩ := HO.out.ptr (by omega)
          have HO1 := Lib.hid (HO.out.later HX1.out)
          have hsl := fun W => run_slice_from (P := Try.prog) W 22 5 Try.underlying22 (fun _ => by kernel_rfl) g 0 zs.length c3 o (by omega)
          have hne : ¬ c3 = o := by omega
          simp only [if_neg hne, Nat.zero_add] at hsl
          have HS1 : Hid (w0.heap.size ≤ w1.heap.size) := Lib.hid HB1.out.size
          go_wp2
          go_still_tail 6, (by kernel_rfl)
          change wpList _ _ _ _ _ w1.drew
          have HO3 : Hid (Ob w1.drew w0.heap.size 5 (.slice (some ⟨g, 0, none⟩) zs.length c3) zs) := Lib.hid (HO1.out.later (Below.refl _ _).drew)
          have HB3 : Hid (Below w0.heap.size w0 w1.drew) := Lib.hid (HB1.out.trans (((Below.refl _ _).drew).mono HS1.out))
          have HD3 : Hid (Bs w1.drew p n c.dat) := Lib.hid (H.out.1.later HB3.out)
          have HGB := Lib.hid HO3.out.block_own.1
          go_wp2_with (refine wpList_copy_at rfl (.tmp 44) (.tmp 46) 22 22 5 rfl Try.underlying22 size8 w0.heap.size g o _ n zs.length c3 (c3 - o) cap p zs c.dat rfl rfl HO3.out HD3.out HN1.out (by omega) (by omega) ?_; intro w4 hob4 hg4; rw [HPC.out] at hob4; have HO4 := Lib.hid hob4; have HB4 : Hid (Below w0.heap.size w0 w4) := Lib.hid (HB3.out.grown hg4 HB3.out.size (fun k hk => by cases hk; exact HGB.out)); clear hob4 hg4)
          go_ret
          exact ⟨_, rfl, by rw [HF.out]; exact HO4.out, HB4.out⟩
        · have hgt : decide ((o : Int) + (n : Int) - (zs.length : Int) > 0) = true := by simp; omega
          obtain ⟨k, hk⟩ : ∃ k, o + n - zs.length = k := ⟨_, rfl⟩
          have hkz : ((o : Int) + (n : Int) - (zs.length : Int)) = (k : Int) := by omega
          have HK0 : Hid (0 < k) := Lib.hid (by omega)
          have HKL : Hid (zs.length + k ≤ 140737488355328) := Lib.hid (by omega)
          have HLK : Hid ((zs ++ List.replicate k (0 : Int)).length = o + n) := Lib.hid (by rw [List.length_append, List.length_replicate]; omega)
          rw [hk] at HPC
          clear hk
          go_enter Try.func31, Try.ntmps31
          go_wp2_with fail
          refine (HRT.out _ (H.out.later HB0.out)).mono ?_
          rintro e w1 ⟨rfl, hw1⟩
          have HB1 : Hid (Below w0.heap.size w0 w1) := Lib.hid (by rw [← hw1]; exact HB0.out.alloc HB0.out.size _)
          have HX1 : Hid (Below w.heap.size w w1) := Lib.hid (by rw [← hw1]; exact HX0.out.alloc HX0.out.size _)
          have HC1 : Hid (Cw w1 w.heap.size c p n cap) := Lib.hid (HC0.out.keep (by rw [← hw1]; exact (Below.refl _ _).alloc HS0.out _))
          have HS1 : Hid (w0.heap.size ≤ w1.heap.size) := Lib.hid HB1.out.size
          clear hw1 h0 h1 h2 HC0 HS0 HB0 HX0
          have hc1 := HC1.out.cells
          rw [HCUT.out, HOF.out] at hc1
          obtain ⟨h0, h1, h2⟩ := hc1
          have HO1 := Lib.hid (HO.out.later HX1.out)
          go_upto_region 10 with (refine wpList_append_zeros rfl (.tmp 38) (.tmp 39) 22 3 5 rfl Try.underlying22 Try.underlying3 info8 w0.heap.size _ zs rfl HO1.out k rfl HK0.out HKL.out HS1.out ?_; intro v2 w2 hob2 hg2; have HO2 := Lib.hid hob2; have HX2 := Lib.hid (below_new HB1.out HO1.out hg2 HS1.out); have HC2 : Hid (Cw w2 w.heap.size c p n cap) := Lib.hid (by have hh := HC1.out; unfold Cw at hh ⊢; rw [hg2.block _ HC1.out.lt (fun he => by obtain ⟨_, hlt⟩ := HO.out.2.lt _ he.symm; omega)]; exact hh); clear hob2 hg2)
          have HS2 : Hid (w0.heap.size ≤ w2.heap.size) := Lib.hid HX2.out.size
          clear h0 h1 h2 HO1 HB1 HX1 HC1
          have hc2 := HC2.out.cells
          rw [HCUT.out, HOF.out] at hc2
          obtain ⟨h0, h1, h2⟩ := hc2
          obtain ⟨p4, c4, hv4, hlc4, hcm4, _, _⟩ := HO2.out.open
          rw [HLK.out] at hv4 hlc4
          subst hv4
          obtain ⟨g, rfl⟩ := HO2.out.ptr (by have := HN1.out; omega)
          have hsl := fun W => run_slice_from (P := Try.prog) W 22 5 Try.underlying22 (fun _ => by kernel_rfl) g 0 (o + n) c4 o (by omega)
          have hne : ¬ c4 = o := by have := HN1.out; omega
          simp only [if_neg hne, Nat.zero_add] at hsl
          go_wp2
          go_still_tail 6, (by kernel_rfl)
          change wpList _ _ _ _ _ w2.drew
          have HO3 : Hid (Ob w2.drew w0.heap.size 5 (.slice (some ⟨g, 0, none⟩) (o + n) c4) (zs ++ List.replicate k 0)) := Lib.hid (HO2.out.later (Below.refl _ _).drew)
          have HB3 : Hid (Below w0.heap.size w0 w2.drew) := Lib.hid (HX2.out.trans (((Below.refl _ _).drew).mono HS2.out))
          have HD3 : Hid (Bs w2.drew p n c.dat) := Lib.hid (H.out.1.later HB3.out)
          have HGB := Lib.hid HO3.out.block_own.1
          go_wp2_with (refine wpList_copy_at rfl (.tmp 44) (.tmp 46) 22 22 5 rfl Try.underlying22 size8 w0.heap.size g o _ n (o + n) c4 (c4 - o) cap p (zs ++ List.replicate k 0) c.dat rfl rfl HO3.out HD3.out HN1.out (by omega) (by omega) ?_; intro w4 hob4 hg4; rw [HPC.out] at hob4; have HO4 := Lib.hid hob4; have HB4 : Hid (Below w0.heap.size w0 w4) := Lib.hid (HB3.out.grown hg4 HB3.out.size (fun k hk => by cases hk; exact HGB.out)); clear hob4 hg4)
          go_ret
          exact ⟨_, rfl, by rw [HF.out]; exact HO4.out, HB4.out⟩
    · have HF : Hid (appP zs c c.dat.length = zs.take o) := Lib.hid (by
        unfold appP
        rw [if_neg (by rw [hr]; simp), if_pos hcut, ho']
        rfl)
      have HCUT := Lib.hid hcut
      have HM : Hid (zs.take (min o zs.length) = zs.take o) := Lib.hid (by
        rcases Nat.le_total o zs.length with h | h
        · rw [Nat.min_eq_left h]
        · rw [Nat.min_eq_right h, List.take_of_length_le (Nat.le_refl _), List.take_of_length_le h])
      have hmin : min (o : Int) (zs.length : Int) = ((min o zs.length : Nat) : Int) := by omega
      have hsl : ∀ W, (Instr.slice 22 (.slice p3 zs.length c3) none (some (.int .i64 (min (o : Int) (zs.length : Int)))) none).run Try.prog W = .ok (.slice p3 (min o zs.length) c3) W := fun W => by
        rw [hmin]
        exact slice_to_any W 22 5 Try.underlying22 (fun _ => by kernel_rfl) _ w p3 zs.length c3 _ zs ho (Nat.min_le_right _ _)
      clear hmin hro o0 o1 hr hc ho hcut ho'
      unfold chV
      obtain ⟨h0, h1, h2⟩ := hcl
      go_enter Try.func31, Try.ntmps31
      go_wp2_with fail
      refine (HRT.out _ (H.out.later HB0.out)).mono ?_
      rintro e w1 ⟨rfl, hw1⟩
      have HB1 : Hid (Below w0.heap.size w0 w1) := Lib.hid (by rw [← hw1]; exact HB0.out.alloc HB0.out.size _)
      have HX1 : Hid (Below w.heap.size w w1) := Lib.hid (by rw [← hw1]; exact HX0.out.alloc HX0.out.size _)
      have HC1 : Hid (Cw w1 w.heap.size c p n cap) := Lib.hid (HC0.out.keep (by rw [← hw1]; exact (Below.refl _ _).alloc HS0.out _))
      clear hw1 h0 h1 h2 HC0 HS0 HB0 HX0
      have hc1 := HC1.out.cells
      rw [HCUT.out, HOF.out] at hc1
      obtain ⟨h0, h1, h2⟩ := hc1
      go_wp2
      go_ret
      exact ⟨_, rfl, by rw [HF.out, ← HM.out]; exact (HO.out.later HX1.out).first _ (Nat.min_le_right _ _), HB1.out⟩
end Go.Proofs.Ytapobakolnlpmaa
