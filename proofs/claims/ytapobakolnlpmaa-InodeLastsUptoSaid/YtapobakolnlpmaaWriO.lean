/- Layer 9: the reference's Survive and Peak. -/
import Derived.Test.YtapobakolnlpmaaWriN
import Derived.Test.YtapobakolnlpmaaWriM
namespace Go.Proofs.Ytapobakolnlpmaa
set_option linter.unusedVariables false
open Go.RowKit Go.Lib

set_option maxRecDepth 100000 in
set_option maxHeartbeats 2000000 in
theorem rsurvive_any (q : Option Addr) (l cp : Nat) (zs : List Int) (p : Option Addr) (n cap : Nat) (L : List Wd) (r : Option Addr) (m cm : Nat) (ch : List Int) (w : World) (hz : Bs w q l zs) (hq : q = none → cp = 0) (hl : l ≤ 2097152) (h : Ws w p n L) (hn : n ≤ 1048576) (hr : Bs w r m ch) (hm : m ≤ 2097152) :
    Calls Try.prog 29 #[.slice q l cp, .slice p n cap, .slice r m cm] w fun e w' => ∃ v, e = .returned v ∧ Ob w' w.heap.size 5 v (surP zs (chs L) ch) ∧ Below w.heap.size w w' := by
  have H := Lib.hid h
  have HR := Lib.hid hr
  have HZ := Lib.hid hz
  have HQ := Lib.hid hq
  have HLL := Lib.hid h.1
  have HCL := Lib.hid hr.1
  have HBD : Hid (∀ k, (surP zs ((chs L).take k) (ch.take k)).length ≤ 2097152) := Lib.hid (fun k => surP_bound zs _ _ (by rw [hz.1]; exact hl))
  have HT : Hid (∀ K, K = min n m → surP zs (chs L) ch = surP zs ((chs L).take K) (ch.take K)) := Lib.hid (fun K hK => surP_take _ _ _ _ (by rw [chs_length, h.1, hr.1, hK]))
  have HZL : Hid (([] : List Int).length + l ≤ 140737488355328) := Lib.hid (by simp; omega)
  have HO0 := Lib.hid (Ob.nil w w.heap.size 5)
  clear h hz hq hr
  go_enter Try.func29, Try.ntmps29
  go_wp2_with (refine wpList_append_bytes rfl (.const (.slice none 0 0)) (.tmp 10) 22 5 rfl Try.underlying22 info8 w.heap.size _ [] rfl HO0.out q l cp zs rfl HZ.out HQ.out HZL.out (Nat.le_refl _) ?_; intro v2 w2 hob2 hg2; rw [List.nil_append] at hob2; have HO2 := Lib.hid hob2; have HX2 := Lib.hid (below_new (Below.refl w.heap.size w) HO0.out hg2 (Nat.le_refl _)); clear hob2 hg2)
  go_loopw [7, 8] (fun v i wr => ∃ k : Nat, k ≤ n ∧ k ≤ m ∧ i = .int .i64 (k : Int) ∧ Hid (Ob wr w.heap.size 5 v (surP zs ((chs L).take k) (ch.take k))) ∧ Hid (Below w.heap.size w wr)) (fun _ i _ => n - (intOf i).toNat)
  case atStart => exact ⟨0, by omega, by omega, rfl, by rw [List.take_zero, List.take_zero, surP_none]; exact HO2, HX2⟩
  case round =>
    clear HO2 HX2
    obtain ⟨k, hk, hkm', rfl, HO, HB⟩ := hrel
    by_cases hlt : k < n
    · by_cases hlm : k < m
      · obtain ⟨b, off, rfl, hcl⟩ := H.out.ptr k hlt
        have hpp : ∃ b2 off2, r = some ⟨b2, off2, none⟩ ∧ ∀ j, j < m → w.cell? ⟨b2, off2 + j, none⟩ = some (.int .u8 (ch.getD j 0)) := by
          rcases HR.out.2.2 with h | h
          · omega
          · exact h
        obtain ⟨b2, off2, rfl, hcc⟩ := hpp
        have hx := hcc k hlm
        have hxb := HR.out.2.1 k
        have HF := Lib.hid (H.out.fit k)
        have HST := Lib.hid (surP_step zs L ch k (by rw [HLL.out]; exact hlt) (by rw [HCL.out]; exact hlm))
        have HDL := Lib.hid (H.out.fit k).1.1
        generalize L.getD k wd0 = xw at *
        obtain ⟨xc, xp, xn, xcap⟩ := xw
        generalize ch.getD k 0 = x at *
        have HK : Hid (∀ W, Below w.heap.size w W → (W.cell? ⟨b, off + k * 3, none⟩ = some (.bool xc.cut) ∧ W.cell? ⟨b, off + k * 3 + 1, none⟩ = some (.int .i64 xc.off) ∧ W.cell? ⟨b, off + k * 3 + 2, none⟩ = some (.slice xp xn xcap)) ∧ W.cell? ⟨b2, off2 + k, none⟩ = some (.int .u8 x)) := Lib.hid (fun W hW => by
          refine ⟨⟨?_, ?_, ?_⟩, ?_⟩
          · rw [hW.cell (World.block_lt_of_cell? w _ hcl.1)]; exact hcl.1
          · rw [hW.cell (World.block_lt_of_cell? w _ hcl.2.1)]; exact hcl.2.1
          · rw [hW.cell (World.block_lt_of_cell? w _ hcl.2.2)]; exact hcl.2.2
          · rw [hW.cell (World.block_lt_of_cell? w _ hx)]; exact hx)
        clear hcc hcl hx
        obtain ⟨⟨h0, h1, h2⟩, hx⟩ := HK.out _ HB.out
        obtain ⟨hx0, hx1⟩ := hxb
        obtain ⟨p3, c3, hv3, _, _, hbs3, hpc3⟩ := HO.out.open
        subst hv3
        have HBS3 := Lib.hid hbs3
        have HPC3 := Lib.hid hpc3
        have hkn : (k : Int) < (n : Int) := by omega
        have hkm : (k : Int) < (m : Int) := by omega
        have hk0 : (0 : Int) ≤ (k : Int) := by omega
        clear hbs3 hpc3
        by_cases hxz : x = 0
        · have HE : Hid (surP zs ((chs L).take (k + 1)) (ch.take (k + 1)) = surP zs ((chs L).take k) (ch.take k)) := Lib.hid (by rw [HST.out, if_neg (by omega)])
          have hz1 : decide (x > 0) = false := by simp; omega
          have hz2 : ((x : Int) == 255) = false := by simp; omega
          subst hxz
          rw [← HE.out] at HO
          go_wp2
          refine ⟨?_, by simp [intOf]; omega⟩
          first
            | exact ⟨k + 1, by omega, by omega, by go_num, by rw [HE.out] at HO ⊢; exact HO, HB⟩
            | ((repeat apply Exists.intro); refine ⟨?_, rfl⟩; exact ⟨k + 1, by omega, by omega, by go_num, by rw [HE.out] at HO ⊢; exact HO, HB⟩)
        · have hz1 : decide (x > 0) = true := by simp; omega
          by_cases hx255 : x = 255
          · have hz2 : ((x : Int) == 255) = true := by simp; omega
            have HE : Hid (surP zs ((chs L).take (k + 1)) (ch.take (k + 1)) = appP (surP zs ((chs L).take k) (ch.take k)) xc xn) := Lib.hid (by
              rw [HST.out, if_pos (by omega)]
              unfold mostP
              rw [if_pos hx255, HDL.out])
            go_wp2_with (go_at_call 24; refine (rapply_any p3 _ c3 _ xc xp xn xcap xn _ HBS3.out HPC3.out (HF.out.later HB.out) (HBD.out k)).mono ?_; rintro e w2 ⟨v2, rfl, ho2, hb2⟩; rw [← HE.out] at ho2; have HO2 := Lib.hid (ho2.mono HB.out.size); have HB2 := Lib.hid (below_step HB.out hb2); clear ho2 hb2)
            refine ⟨?_, by simp [intOf]; omega⟩
            first
              | exact ⟨k + 1, by omega, by omega, by go_num, HO2, HB2⟩
              | ((repeat apply Exists.intro); refine ⟨?_, rfl⟩; exact ⟨k + 1, by omega, by omega, by go_num, HO2, HB2⟩)
          · have hz2 : ((x : Int) == 255) = false := by simp; omega
            obtain ⟨X, rfl⟩ : ∃ X : Nat, x = (X : Int) := ⟨x.toNat, by omega⟩
            have HE : Hid (surP zs ((chs L).take (k + 1)) (ch.take (k + 1)) = appP (surP zs ((chs L).take k) (ch.take k)) xc X) := Lib.hid (by
              rw [HST.out, if_pos (by omega)]
              unfold mostP
              rw [if_neg hx255]
              rfl)
            go_wp2_with (go_at_call 24; refine (rapply_any p3 _ c3 _ xc xp xn xcap X _ HBS3.out HPC3.out (HF.out.later HB.out) (HBD.out k)).mono ?_; rintro e w2 ⟨v2, rfl, ho2, hb2⟩; rw [← HE.out] at ho2; have HO2 := Lib.hid (ho2.mono HB.out.size); have HB2 := Lib.hid (below_step HB.out hb2); clear ho2 hb2)
            refine ⟨?_, by simp [intOf]; omega⟩
            first
              | exact ⟨k + 1, by omega, by omega, by go_num, HO2, HB2⟩
              | ((repeat apply Exists.intro); refine ⟨?_, rfl⟩; exact ⟨k + 1, by omega, by omega, by go_num, HO2, HB2⟩)
      · obtain rfl : k = m := by omega
        have HE := Lib.hid (HT.out k (by omega))
        go_wp2
        go_ret
        exact ⟨_, rfl, by rw [HE.out]; exact HO.out, HB.out⟩
    · obtain rfl : k = n := by omega
      have HE := Lib.hid (HT.out k (by omega))
      go_wp2
      go_ret
      exact ⟨_, rfl, by rw [HE.out]; exact HO.out, HB.out⟩
end Go.Proofs.Ytapobakolnlpmaa
