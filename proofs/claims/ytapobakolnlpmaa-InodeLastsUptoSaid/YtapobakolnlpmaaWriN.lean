/- Layer 9: the reference's All. -/
import Derived.Test.YtapobakolnlpmaaWriL
import Derived.Test.YtapobakolnlpmaaWriB
namespace Go.Proofs.Ytapobakolnlpmaa
set_option linter.unusedVariables false
open Go.RowKit Go.Lib

theorem rapply_any (q : Option Addr) (l cp : Nat) (zs : List Int) (c : Ch) (p : Option Addr) (n cap : Nat) (M : Nat) (w : World) (hz : Bs w q l zs) (hq : q = none → cp = 0) (h : chIn w c p n cap) (hl : l ≤ 2097152) :
    Calls Try.prog 24 #[.slice q l cp, chV c p n cap, .int .i64 (M : Int)] w fun e w' => ∃ v, e = .returned v ∧ Ob w' w.heap.size 5 v (appP zs c M) ∧ Below w.heap.size w w' := by
  cases hr : rightP c
  · exact rapply_cut q l cp zs c p n cap (M : Int) w hz hq h hl (Or.inl hr)
  · cases hc : c.cut
    · exact rapply_put q l cp zs c p n cap M w hz hq h hl hr hc
    · exact rapply_cut q l cp zs c p n cap (M : Int) w hz hq h hl (Or.inr hc)

set_option maxRecDepth 100000 in
set_option maxHeartbeats 2000000 in
theorem rall_any (q : Option Addr) (l cp : Nat) (zs : List Int) (p : Option Addr) (n cap : Nat) (L : List Wd) (w : World) (hz : Bs w q l zs) (hq : q = none → cp = 0) (hl : l ≤ 2097152) (h : Ws w p n L) (hn : n ≤ 1048576) :
    Calls Try.prog 11 #[.slice q l cp, .slice p n cap] w fun e w' => ∃ v, e = .returned v ∧ Ob w' w.heap.size 5 v (allP zs (chs L)) ∧ Below w.heap.size w w' := by
  have H := Lib.hid h
  have HZ := Lib.hid hz
  have HQ := Lib.hid hq
  have HLL := Lib.hid h.1
  have HBD : Hid (∀ k, (allP zs ((chs L).take k)).length ≤ 2097152) := Lib.hid (fun k => allP_bound zs _ (by rw [hz.1]; exact hl))
  have HZL : Hid (([] : List Int).length + l ≤ 140737488355328) := Lib.hid (by simp; omega)
  have HO0 := Lib.hid (Ob.nil w w.heap.size 5)
  clear h hz hq
  go_enter Try.func11, Try.ntmps11
  go_wp2_with (refine wpList_append_bytes rfl (.const (.slice none 0 0)) (.tmp 7) 22 5 rfl Try.underlying22 info8 w.heap.size _ [] rfl HO0.out q l cp zs rfl HZ.out HQ.out HZL.out (Nat.le_refl _) ?_; intro v2 w2 hob2 hg2; rw [List.nil_append] at hob2; have HO2 := Lib.hid hob2; have HX2 := Lib.hid (below_new (Below.refl w.heap.size w) HO0.out hg2 (Nat.le_refl _)); clear hob2 hg2)
  go_loopw [5, 6] (fun v i wr => ∃ k : Nat, k ≤ n ∧ i = .int .i64 (k : Int) ∧ Hid (Ob wr w.heap.size 5 v (allP zs ((chs L).take k))) ∧ Hid (Below w.heap.size w wr)) (fun _ i _ => n - (intOf i).toNat)
  case atStart => exact ⟨0, by omega, rfl, by rw [List.take_zero]; exact HO2, HX2⟩
  case round =>
    clear HO2 HX2
    obtain ⟨k, hk, rfl, HO, HB⟩ := hrel
    by_cases hlt : k < n
    · obtain ⟨b, off, rfl, hcl⟩ := H.out.ptr k hlt
      have HF := Lib.hid (H.out.fit k)
      have HST := Lib.hid (allP_step zs L k (by rw [HLL.out]; exact hlt))
      have HDL := Lib.hid (H.out.fit k).1.1
      generalize L.getD k wd0 = x at *
      obtain ⟨xc, xp, xn, xcap⟩ := x
      have HK : Hid (∀ W, Below w.heap.size w W → W.cell? ⟨b, off + k * 3, none⟩ = some (.bool xc.cut) ∧ W.cell? ⟨b, off + k * 3 + 1, none⟩ = some (.int .i64 xc.off) ∧ W.cell? ⟨b, off + k * 3 + 2, none⟩ = some (.slice xp xn xcap)) := Lib.hid (fun W hW => by
        refine ⟨?_, ?_, ?_⟩
        · rw [hW.cell (World.block_lt_of_cell? w _ hcl.1)]; exact hcl.1
        · rw [hW.cell (World.block_lt_of_cell? w _ hcl.2.1)]; exact hcl.2.1
        · rw [hW.cell (World.block_lt_of_cell? w _ hcl.2.2)]; exact hcl.2.2)
      clear hcl
      have HB0 := Lib.hid (below_step HB.out ((Below.refl _ _).drew))
      have HO0 := Lib.hid (HO.out.later ((Below.refl _ _).drew))
      have k0 := HK.out _ HB0.out
      have k1 := HK.out _ HB.out
      obtain ⟨p3, c3, hv3, _, _, hbs3, hpc3⟩ := HO0.out.open
      subst hv3
      have HBS3 := Lib.hid hbs3
      have HPC3 := Lib.hid hpc3
      have hkn : (k : Int) < (n : Int) := by omega
      have hk0 : (0 : Int) ≤ (k : Int) := by omega
      clear hbs3 hpc3
      go_wp2
      go_region_held3 (fun W => W.cell? ⟨b, off + k * 3, none⟩ = some (.bool xc.cut) ∧ W.cell? ⟨b, off + k * 3 + 1, none⟩ = some (.int .i64 xc.off) ∧ W.cell? ⟨b, off + k * 3 + 2, none⟩ = some (.slice xp xn xcap)) (first | exact k0 | exact k1 | exact k2) (first
        | (go_at_call 24; refine (rapply_any p3 _ c3 _ xc xp xn xcap xn _ HBS3.out HPC3.out (HF.out.later HB0.out) (HBD.out k)).mono ?_; rintro e w2 ⟨v2, rfl, ho2, hb2⟩; rw [show xn = xc.dat.length from HDL.out.symm, ← HST.out] at ho2; have HO2 := Lib.hid (ho2.mono HB0.out.size); have HB2 := Lib.hid (below_step HB0.out hb2); have k2 := HK.out _ HB2.out; clear ho2 hb2))
      go_wp2
      refine ⟨?_, by simp [intOf]; omega⟩
      first
        | exact ⟨k + 1, by omega, by go_num, HO2, HB2⟩
        | ((repeat apply Exists.intro); refine ⟨?_, rfl⟩; exact ⟨k + 1, by omega, by go_num, HO2, HB2⟩)
    · obtain rfl : k = n := by omega
      have HT : Hid (chs L = (chs L).take k) := Lib.hid (by rw [List.take_of_length_le (by rw [chs_length, HLL.out]; exact Nat.le_refl _)])
      go_wp2
      go_ret
      exact ⟨_, rfl, by rw [HT.out]; exact HO.out, HB.out⟩
end Go.Proofs.Ytapobakolnlpmaa
