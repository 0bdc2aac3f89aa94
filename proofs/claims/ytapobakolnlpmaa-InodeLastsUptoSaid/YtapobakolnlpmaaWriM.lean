/- Layer 9: the program's Survive. -/
import Derived.Test.YtapobakolnlpmaaWriL
namespace Go.Proofs.Ytapobakolnlpmaa
set_option linter.unusedVariables false
open Go.RowKit Go.Lib

theorem surP_append : ∀ (l1 l2 : List Ch) (c1 c2 : List Int) (b : List Int), l1.length = c1.length → surP b (l1 ++ l2) (c1 ++ c2) = surP (surP b l1 c1) l2 c2
  | [], l2, [], c2, b, _ => by simp [surP_none]
  | c :: l1, l2, x :: c1, c2, b, h => by
    show surP (if 0 < x then appP b c (mostP c x) else b) (l1 ++ l2) (c1 ++ c2) = surP (surP (if 0 < x then appP b c (mostP c x) else b) l1 c1) l2 c2
    exact surP_append l1 l2 c1 c2 _ (by simpa using h)
  | [], l2, x :: c1, c2, b, h => by simp at h
  | c :: l1, l2, [], c2, b, h => by simp at h
theorem surP_take : ∀ (l : List Ch) (ch : List Int) (b : List Int) (K : Nat), K = min l.length ch.length → surP b l ch = surP b (l.take K) (ch.take K)
  | [], ch, b, K, h => by simp [surP]
  | c :: l, [], b, K, h => by
    obtain rfl : K = 0 := by simpa using h
    simp [surP]
  | c :: l, x :: ch, b, K, h => by
    obtain ⟨K', rfl⟩ : ∃ K', K = K' + 1 := ⟨K - 1, by simp at h; omega⟩
    show surP (if 0 < x then appP b c (mostP c x) else b) l ch = surP (if 0 < x then appP b c (mostP c x) else b) (l.take K') (ch.take K')
    exact surP_take l ch _ K' (by simp at h; omega)
theorem surP_step (b : List Int) (L : List Wd) (ch : List Int) (k : Nat) (hk : k < L.length) (hc : k < ch.length) :
    surP b ((chs L).take (k + 1)) (ch.take (k + 1)) = (if 0 < ch.getD k 0 then appP (surP b ((chs L).take k) (ch.take k)) (L.getD k wd0).c (mostP (L.getD k wd0).c (ch.getD k 0)) else surP b ((chs L).take k) (ch.take k)) := by
  have e : ch.take (k + 1) = ch.take k ++ [ch.getD k 0] := by
    rw [List.take_succ_eq_append_getElem hc, List.getD_eq_getElem?_getD, List.getElem?_eq_getElem hc]; rfl
  rw [chs_step L k hk, e, surP_append _ _ _ _ _ (by rw [List.length_take, List.length_take, chs_length]; omega)]
  rfl

set_option maxRecDepth 100000 in
set_option maxHeartbeats 2000000 in
theorem wsurvive_any (q : Option Addr) (l cp : Nat) (zs : List Int) (p : Option Addr) (n cap : Nat) (L : List Wd) (r : Option Addr) (m cm : Nat) (ch : List Int) (w : World) (hz : Bs w q l zs) (hq : q = none → cp = 0) (hl : l ≤ 2097152) (h : Ws w p n L) (hn : n ≤ 1048576) (hr : Bs w r m ch) (hm : m ≤ 2097152) :
    Calls Try.prog 28 #[.slice q l cp, .slice p n cap, .slice r m cm] w fun e w' => ∃ v, e = .returned v ∧ Ob w' w.heap.size 5 v (surP zs (chs L) ch) ∧ Below w.heap.size w w' := by
  have H := Lib.hid h
  have HR := Lib.hid hr
  have HZ := Lib.hid hz
  have HQ := Lib.hid hq
  have HL := Lib.hid hl
  have HLL := Lib.hid h.1
  have HCL := Lib.hid hr.1
  have HBD : Hid (∀ k, (surP zs ((chs L).take k) (ch.take k)).length ≤ 2097152) := Lib.hid (fun k => surP_bound zs _ _ (by rw [hz.1]; exact hl))
  obtain ⟨K, hK⟩ : ∃ K, min n m = K := ⟨_, rfl⟩
  have hKn : K ≤ n := by omega
  have hKm : K ≤ m := by omega
  have hmin : min (n : Int) (m : Int) = (K : Int) := by omega
  have HT : Hid (surP zs (chs L) ch = surP zs ((chs L).take K) (ch.take K)) := Lib.hid (surP_take _ _ _ _ (by rw [chs_length, h.1, hr.1, hK]))
  clear h hz hq hr hK
  go_enter Try.func28, Try.ntmps28
  go_wp2_with (go_at_call 21; refine (wclone_any q l cp zs _ HZ.out HQ.out HL.out).mono ?_; rintro e w1 ⟨v1, rfl, ho1, hb1⟩; have HO1 := Lib.hid ho1; have HB1 := Lib.hid hb1; clear ho1 hb1)
  go_loopw [7, 16] (fun v i wr => ∃ k : Nat, k ≤ K ∧ i = .int .i64 (k : Int) ∧ Hid (Ob wr w.heap.size 5 v (surP zs ((chs L).take k) (ch.take k))) ∧ Hid (Below w.heap.size w wr)) (fun _ i _ => K - (intOf i).toNat)
  case atStart => exact ⟨0, by omega, rfl, by rw [List.take_zero, List.take_zero, surP_none]; exact HO1, HB1⟩
  case round =>
    clear HO1 HB1
    obtain ⟨k, hk, rfl, HO, HB⟩ := hrel
    by_cases hlt : k < K
    · obtain ⟨b, off, rfl, hcl⟩ := H.out.ptr k (by omega)
      have hpp : ∃ b2 off2, r = some ⟨b2, off2, none⟩ ∧ ∀ j, j < m → w.cell? ⟨b2, off2 + j, none⟩ = some (.int .u8 (ch.getD j 0)) := by
        rcases HR.out.2.2 with h | h
        · omega
        · exact h
      obtain ⟨b2, off2, rfl, hcc⟩ := hpp
      have hx := hcc k (by omega)
      have hxb := HR.out.2.1 k
      have HF := Lib.hid (H.out.fit k)
      have HST := Lib.hid (surP_step zs L ch k (by rw [HLL.out]; omega) (by rw [HCL.out]; omega))
      rw [← survP_app _ _ _ hxb.1] at HST
      generalize L.getD k wd0 = xw at *
      obtain ⟨xc, xp, xn, xcap⟩ := xw
      generalize ch.getD k 0 = x at *
      have HK : Hid (∀ W, Below w.heap.size w W → W.cell? ⟨b, off + k * 3, none⟩ = some (.bool xc.cut) ∧ W.cell? ⟨b, off + k * 3 + 1, none⟩ = some (.int .i64 xc.off) ∧ W.cell? ⟨b, off + k * 3 + 2, none⟩ = some (.slice xp xn xcap) ∧ W.cell? ⟨b2, off2 + k, none⟩ = some (.int .u8 x)) := Lib.hid (fun W hW => by
        refine ⟨?_, ?_, ?_, ?_⟩
        · rw [hW.cell (World.block_lt_of_cell? w _ hcl.1)]; exact hcl.1
        · rw [hW.cell (World.block_lt_of_cell? w _ hcl.2.1)]; exact hcl.2.1
        · rw [hW.cell (World.block_lt_of_cell? w _ hcl.2.2)]; exact hcl.2.2
        · rw [hW.cell (World.block_lt_of_cell? w _ hx)]; exact hx)
      clear hcc hcl hx
      have k1 := HK.out _ HB.out
      have HB0 := Lib.hid (below_step HB.out ((Below.refl _ _).drew))
      have HO0 := Lib.hid (HO.out.later ((Below.refl _ _).drew))
      have k0 := HK.out _ HB0.out
      obtain ⟨hx0, hx1⟩ := hxb
      have hkn : (k : Int) < (n : Int) := by omega
      have hkm : (k : Int) < (m : Int) := by omega
      have hk0 : (0 : Int) ≤ (k : Int) := by omega
      go_wp2
      go_region_held3 (fun W => W.cell? ⟨b, off + k * 3, none⟩ = some (.bool xc.cut) ∧ W.cell? ⟨b, off + k * 3 + 1, none⟩ = some (.int .i64 xc.off) ∧ W.cell? ⟨b, off + k * 3 + 2, none⟩ = some (.slice xp xn xcap) ∧ W.cell? ⟨b2, off2 + k, none⟩ = some (.int .u8 x)) (first | exact k0 | exact k1 | exact k2 | exact k3) (first
        | (go_at_call 33; refine (wsurvivor_any xc xp xn xcap x _ (HF.out.later HB0.out) hx0 hx1).mono ?_; rintro e w2 ⟨p', n', cap', rfl, hin2, hb2⟩; have HIN2 := Lib.hid (hin2 w HF.out); have HO2 := Lib.hid (HO0.out.later hb2); have HB2 := Lib.hid (below_step HB0.out hb2); have k2 := HK.out _ HB2.out; clear hin2 hb2)
        | (go_at_call 31; refine (wchange_any w u7 _ (survP xc x) p' n' cap' _ HB2.out HO2.out HIN2.out (HBD.out k)).mono ?_; rintro e w3 ⟨v3, rfl, ho3, hb3⟩; rw [← HST.out] at ho3; have HO3 := Lib.hid ho3; have HB3 := Lib.hid hb3; have k3 := HK.out _ hb3; clear ho3 hb3))
      go_wp2
      refine ⟨?_, by simp [intOf]; omega⟩
      first
        | exact ⟨k + 1, by omega, by go_num, HO3, HB3⟩
        | ((repeat apply Exists.intro); refine ⟨?_, rfl⟩; exact ⟨k + 1, by omega, by go_num, HO3, HB3⟩)
    · obtain rfl : k = K := by omega
      go_wp2
      go_ret
      exact ⟨_, rfl, by rw [HT.out]; exact HO.out, HB.out⟩
end Go.Proofs.Ytapobakolnlpmaa
