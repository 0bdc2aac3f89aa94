/- The walk of Write. -/
import Derived.Test.YtlggbicjgddnaaaDoorShaW5
import Derived.Deep.RegionLaw
import Derived.Deep.AppendLies
namespace Go.Proofs.YtlggbicjgddnaaaDoor
set_option linter.unusedVariables false
open Go.RowKit Go.Lib

theorem wd_take (zs : List Int) (t : Nat) (h : t < 16) : wd (zs.take 64) t = wd zs t := by
  simp only [wd, List.getD_eq_getElem?_getD, List.getElem?_take]
  rw [if_pos (by omega), if_pos (by omega), if_pos (by omega), if_pos (by omega)]
theorem mixB_take (ks : List Nat) (s : St) (zs : List Int) : mixB ks s (zs.take 64) = mixB ks s zs := by
  unfold mixB
  have : wds (zs.take 64) 16 = wds zs 16 := by
    unfold wds
    exact List.map_congr_left fun t ht => wd_take zs t (List.mem_range.1 ht)
  rw [this]
theorem runS_append (ks : List Nat) (s : St) (zs ys : List Int) : ∀ n, 64 * n ≤ zs.length → runS ks s (zs ++ ys) n = runS ks s zs n
  | 0, _ => rfl
  | n + 1, h => by
    simp only [runS]
    rw [runS_append ks s zs ys n (by omega), ← mixB_take, ← mixB_take ks _ (zs.drop (64 * n)), List.drop_append_of_le_length (by omega), List.take_append_of_le_length (by simp; omega)]

theorem alen64 : Tryd.prog.arrayLen 81 = 64 := by kernel_rfl
theorem aelem64 : Tryd.prog.elem 81 = 5 := by kernel_rfl
theorem run_block_from (W : World) (b f : Nat) (h : f < 64) : (Instr.sliceAt 81 (.pointer (some ⟨b, 8, none⟩)) (some (.int .i64 (f : Int))) none none).run Tryd.prog W = .ok (.slice (some ⟨b, 8 + f, none⟩) (64 - f) (64 - f)) W := by
  have hu : Tryd.prog.underlying 81 = some (.array (Tryd.prog.arrayLen 81) (Tryd.prog.elem 81)) := by rw [alen64, aelem64]; exact Tryd.underlying81
  have hz : ∀ w, (Go.sizeOf 5).run Tryd.prog w = .ok 1 w := fun _ => by kernel_rfl
  rw [run_sliceAt_array_l W _ _ hu .i64 _ (by omega) (by rw [alen64]; omega), alen64, aelem64, hz]
  simp only [Result.andThen, slicedAt, Int.toNat_natCast, Nat.mul_one]
  rw [if_neg (by omega), Addr.add_mid]
theorem put_early {blk ys zs : List Int} {n len f : Nat} (hb : blk.length = 64) (hz : zs.length = n) (hl : ys.length = len) (hf : n % 64 = f) (hq : f + len < 64) (ht : blk.take (n % 64) = zs.drop (64 * (n / 64))) :
    (blkPut blk f (ys.take len)).take ((n + len) % 64) = (zs ++ ys).drop (64 * ((n + len) / 64)) := by
  have e1 : (blk.take f).length = f := by rw [List.length_take, hb]; omega
  have e2 : (n + len) % 64 = f + len := by omega
  have e3 : (n + len) / 64 = n / 64 := by omega
  have e4 : f + len - f = len := by omega
  rw [e2, e3, List.drop_append_of_le_length (by omega), ← ht, hf]
  unfold blkPut
  rw [List.take_append, e1, e4, List.take_of_length_le (by omega : (blk.take f).length ≤ f + len), List.take_of_length_le (by omega : ys.length ≤ len), List.take_append_of_le_length (by omega), List.take_of_length_le (by omega : ys.length ≤ len)]
theorem ucs_lit (T : St) : ucs T.list = #[.int .u32 (T.a : Int), .int .u32 (T.b : Int), .int .u32 (T.c : Int), .int .u32 (T.d : Int), .int .u32 (T.e : Int), .int .u32 (T.f : Int), .int .u32 (T.g : Int), .int .u32 (T.h : Int)] := rfl
theorem put_full {blk ys zs : List Int} {n len f m : Nat} (hb : blk.length = 64) (hz : zs.length = n) (hl : ys.length = len) (hf : n % 64 = f) (hm : f + m = 64) (hml : m ≤ len) (ht : blk.take (n % 64) = zs.drop (64 * (n / 64))) :
    blkPut blk f (ys.take m) = ((zs ++ ys).drop (64 * (n / 64))).take 64 := by
  have e0 : (zs.drop (64 * (n / 64))).length = f := by rw [List.length_drop]; omega
  rw [List.drop_append_of_le_length (by omega), List.take_append, e0, ← ht, hf, show 64 - f = m by omega, List.take_of_length_le (by rw [List.length_take]; omega : (blk.take f).length ≤ 64)]
  unfold blkPut
  rw [List.drop_of_length_le (by rw [List.length_take]; omega), List.append_nil]
def lenOf : Value → Nat | .slice _ n _ => n | _ => 0

set_option maxHeartbeats 1000000 in
set_option maxRecDepth 100000 in
theorem swrite_any (b : Nat) (p : Option Addr) (len cap : Nat) (ys zs : List Int) (w : World) (hH : Hw w b zs) (hs : Bs w p len ys) (hc : len ≤ cap) (hm : cap ≤ maxLen) (hne : Away p len b) (hK : Kw w) (hb0 : b ≠ 1) (hsum : zs.length + len < 1152921504606846976) :
    Calls Tryd.prog 39 #[.pointer (some ⟨b, 0, none⟩), .slice p len cap] w fun e w' => e = .returned (.tuple #[]) ∧ Hw w' b (zs ++ ys) ∧ w.grownBy w' (some b) := by
  obtain ⟨blk, hHb, htk⟩ := hH
  obtain ⟨n, hn⟩ : ∃ n, zs.length = n := ⟨_, rfl⟩
  rw [hn] at hHb htk hsum
  have cl := hHb.len
  have fl := hHb.frozen 72
  have HHb := Lib.hid hHb
  have HT := Lib.hid htk
  have HS := Lib.hid hs
  have HC := Lib.hid hc
  have HM := Lib.hid hm
  have HNE := Lib.hid hne
  have HK := Lib.hid hK
  have HB0 := Lib.hid hb0
  have HN := Lib.hid hn
  clear hHb htk hs hc hm hne hK hb0 hn
  go_enter Tryd.func39, Tryd.ntmps39
  go_upto_if 23 with fail
  have hf64 : n % 64 < 64 := Nat.mod_lt _ (by decide)
  have hval : (n : Int) + (len : Int) = ((n + len : Nat) : Int) := by omega
  rw [hval]
  have H1 := Lib.hid (HHb.out.setLen (n + len))
  have HG1 := Lib.hid (grown_setCell (b := b) (o := 72) (grown_refl w (some b)) (.int .i64 ((n + len : Nat) : Int)))
  have HS1 := Lib.hid (HS.out.grown HG1.out HNE.out)
  have HK1 := Lib.hid (HK.out.grown HG1.out HB0.out)
  have HA : Hid ((zs ++ ys).length = n + len) := Lib.hid (by rw [List.length_append, HN.out, HS.out.len])
  have HR0 : Hid (runS kS hS zs (n / 64) = runS kS hS (zs ++ ys) (n / 64)) := Lib.hid (runS_append _ _ _ _ _ (by rw [HN.out]; omega)).symm
  rw [HR0.out] at H1
  generalize w.setCell ⟨b, 72, none⟩ (.int .i64 ((n + len : Nat) : Int)) = w1 at *
  clear HR0 cl fl hval
  go_cut [1, 4, 5] (fun v _ _ wx => ∃ p' len' cap' k blk', v = .slice p' len' cap' ∧ Hid (len' ≤ cap' ∧ cap' ≤ maxLen ∧ 64 * k + len' = n + len ∧ Away p' len' b) ∧ Hid (Hb wx b (runS kS hS (zs ++ ys) k) blk' (n + len)) ∧ Hid (Bs wx p' len' ((zs ++ ys).drop (64 * k))) ∧ Hid (w.grownBy wx (some b)))
  case first =>
    by_cases hf : n % 64 = 0
    · have hd : decide (0 < (n : Int) % 64) = false := by simp; omega
      have HR : Hid (∃ p' len' cap' k blk', Value.slice p len cap = .slice p' len' cap' ∧ Hid (len' ≤ cap' ∧ cap' ≤ maxLen ∧ 64 * k + len' = n + len ∧ Away p' len' b) ∧ Hid (Hb w1 b (runS kS hS (zs ++ ys) k) blk' (n + len)) ∧ Hid (Bs w1 p' len' ((zs ++ ys).drop (64 * k))) ∧ Hid (w.grownBy w1 (some b))) := Lib.hid
        ⟨p, len, cap, n / 64, blk, rfl, Lib.hid ⟨HC.out, HM.out, by omega, HNE.out⟩, H1, Lib.hid (by rw [show 64 * (n / 64) = n by omega, List.drop_append_of_le_length (by rw [HN.out]; omega), List.drop_of_length_le (by rw [HN.out]; omega), List.nil_append]; exact HS1.out), HG1⟩
      clear hf
      rw [hd]
      go_wp2_with fail
      go_meet
      case rel => exact HR.out
    · have hd : decide (0 < (n : Int) % 64) = true := by simp; omega
      rw [hd]
      obtain ⟨f, hfe⟩ : ∃ f, n % 64 = f := ⟨_, rfl⟩
      have hfi : (n : Int) % 64 = (f : Int) := by omega
      rw [hfi]
      have HF := Lib.hid hfe
      rw [hfe] at hf hf64
      have hsl := fun W => run_block_from W b f hf64
      clear hd hfe hfi
      by_cases hq : f + len < 64
      · have hmin : len = Nat.min len (64 - f) := (Nat.min_eq_left (by omega)).symm
        have HMI := Lib.hid hmin
        have hq' : (f : Int) + (len : Int) < 64 := by omega
        clear hmin
        go_wp2_with (refine wpList_copy_hb rfl _ _ rfl b f (64 - f) (64 - f) _ _ _ p len cap ys len rfl rfl H1.out HS1.out HMI.out (by omega) ?_; intro w2 hH2 hG2; have H2 := Lib.hid hH2; have HG2 := Lib.hid hG2; clear hH2 hG2)
        refine bodyPost_ret (results_none rfl _ _ _) rfl ⟨rfl, ⟨blkPut blk f (ys.take len), ?_, ?_⟩, grown_trans HG1.out HG2.out⟩
        · rw [HA.out]
          rw [show (n + len) / 64 = n / 64 by have := HF.out; omega]
          exact H2.out
        · rw [HA.out]
          exact put_early HHb.out.1 HN.out HS.out.len HF.out hq HT.out
      · obtain ⟨m, hm⟩ : ∃ m, 64 - f = m := ⟨_, rfl⟩
        have HMI : Hid (m = Nat.min len (64 - f)) := Lib.hid (hm.symm.trans (Nat.min_eq_right (a := len) (b := 64 - f) (by omega)).symm)
        have hfm : (f : Int) + (m : Int) = 64 := by omega
        have HM2 : Hid (f + m = 64 ∧ m ≤ len) := Lib.hid (by omega)
        rw [hm] at hsl HMI
        clear hq hm
        obtain ⟨p2, hs2, hbs2, hn2⟩ := HS1.out.slice_from 22 5 Tryd.underlying22 (fun _ => by kernel_rfl) cap m HC.out HM2.out.2
        have HBS2 := Lib.hid hbs2
        clear hbs2 hn2
        have hx := HM2.out.1
        go_wp2_with (refine wpList_copy_hb rfl _ _ rfl b f m m _ _ _ p len cap ys m rfl rfl H1.out HS1.out HMI.out (by omega) ?_; intro w2 hH2 hG2; have H2 := Lib.hid hH2; have HG2 := Lib.hid hG2; clear hH2 hG2)
        have HL2 := Lib.hid hx
        have HK2 := Lib.hid (HK1.out.grown HG2.out HB0.out)
        have HSO := Lib.hid (runS_ok hS_ok (zs ++ ys) (n / 64) (ks := kS))
        generalize hS0 : runS kS hS (zs ++ ys) (n / 64) = S0 at *
        have HS0 := Lib.hid hS0
        clear hx hS0
        obtain ⟨c0, c1, c2, c3, c4, c5, c6, c7⟩ := H2.out.st8
        have hbd : Below w2.heap.size w2 w2.drew := (Below.refl _ _).drew
        have HBD := Lib.hid hbd
        have hml : Hid (64 ≤ maxLen) := Lib.hid (by unfold maxLen; omega)
        clear hbd
        go_region_law (first | (go_simp; go_at_call 51; refine (mixed_any S0 (some ⟨b, 8, none⟩) 64 64 _ _ HSO.out rfl (H2.out.bs.later HBD.out) (Nat.le_refl _) hml.out (HK2.out.later HBD.out HK2.out.pos)).mono ?_; rintro e w3 ⟨rfl, hb3⟩; rw [ucs_lit]; generalize hTT : mixB kS S0 (blkPut blk f (ys.take m)) = T; have HTT := Lib.hid hTT; clear hTT; have HB3 := Lib.hid hb3; have H3 := Lib.hid (H2.out.later (below_step HBD.out hb3)); obtain ⟨d0, d1, d2, d3, d4, d5, d6, d7⟩ := H3.out.st8; obtain ⟨f0, f1, f2, f3, f4, f5, f6, f7⟩ := H3.out.fr8; clear hb3))
        have H4 := Lib.hid (H3.out.setState T)
        have HG4 := Lib.hid (grown_setCells (grown_below (grown_drew (grown_trans HG1.out HG2.out)) HB3.out) (T.list.map uv) 0)
        have HQ4 := Lib.hid (grown_setCells (grown_below (grown_drew HG2.out) HB3.out) (T.list.map uv) 0)
        have HR : Hid (∃ p' len' cap' k blk', Value.slice p2 (len - m) (cap - m) = .slice p' len' cap' ∧ Hid (len' ≤ cap' ∧ cap' ≤ maxLen ∧ 64 * k + len' = n + len ∧ Away p' len' b) ∧ Hid (Hb (w3.setCells b 0 (T.list.map uv)) b (runS kS hS (zs ++ ys) k) blk' (n + len)) ∧ Hid (Bs (w3.setCells b 0 (T.list.map uv)) p' len' ((zs ++ ys).drop (64 * k))) ∧ Hid (w.grownBy (w3.setCells b 0 (T.list.map uv)) (some b))) := by
          have hc := HC.out
          have hm := HM.out
          have hf0 := HF.out
          have hb2 : Away p2 (len - m) b := by
            rcases HNE.out with h00 | hne
            · exact Or.inl (by omega)
            · refine Or.inr fun a ha => ?_
              obtain ⟨a0, h0, h1⟩ := slice_from_block 22 5 Tryd.underlying22 (fun _ => by kernel_rfl) len cap m HC.out HM2.out.2 (hs2 w) a ha
              rw [h1]; exact hne a0 h0
          refine Lib.hid ⟨p2, len - m, cap - m, n / 64 + 1, blkPut blk f (ys.take m), rfl, Lib.hid ⟨by omega, by omega, by have := HM2.out; omega, hb2⟩, Lib.hid ?_, Lib.hid ?_, HG4⟩
          · have e : runS kS hS (zs ++ ys) (n / 64 + 1) = T := by
              rw [← HTT.out, put_full HHb.out.1 HN.out HS.out.len HF.out HM2.out.1 HM2.out.2 HT.out, mixB_take, ← HS0.out]; rfl
            rw [e]; exact H4.out
          · have e : (zs ++ ys).drop (64 * (n / 64 + 1)) = ys.drop m := by
              rw [List.drop_append, List.drop_of_length_le (by rw [HN.out]; omega), List.nil_append, HN.out, show 64 * (n / 64 + 1) - n = m by have := HM2.out; omega]
            rw [e]
            exact HBS2.out.grown HQ4.out hb2
        generalize hW4 : w3.setCells b 0 (T.list.map uv) = w4 at HR
        have hw4 : (((((((w3.setCell ⟨b, 0, none⟩ (.int .u32 (T.a : Int))).setCell ⟨b, 1, none⟩ (.int .u32 (T.b : Int))).setCell ⟨b, 2, none⟩ (.int .u32 (T.c : Int))).setCell ⟨b, 3, none⟩ (.int .u32 (T.d : Int))).setCell ⟨b, 4, none⟩ (.int .u32 (T.e : Int))).setCell ⟨b, 5, none⟩ (.int .u32 (T.f : Int))).setCell ⟨b, 6, none⟩ (.int .u32 (T.g : Int))).setCell ⟨b, 7, none⟩ (.int .u32 (T.h : Int)) = w4 := hW4
        rw [hw4]
        clear hW4 hw4 H4 HG4 HQ4 d0 d1 d2 d3 d4 d5 d6 d7 f0 f1 f2 f3 f4 f5 f6 f7 c0 c1 c2 c3 c4 c5 c6 c7
        go_wp2_with fail
        go_meet
        case rel => exact HR.out
  case rest =>
    clear HHb HT HS HC HM HNE H1 HG1 HS1 HK1 hf64
    obtain ⟨p1, len1, cap1, k1, blk1, rfl, hA1, hB1, hC1, hD1⟩ := hcut
    go_wp2
    go_loopw [1] (fun v wr => ∃ p' len' cap' k blk', v = .slice p' len' cap' ∧ Hid (len' ≤ cap' ∧ cap' ≤ maxLen ∧ 64 * k + len' = n + len ∧ Away p' len' b) ∧ Hid (Hb wr b (runS kS hS (zs ++ ys) k) blk' (n + len)) ∧ Hid (Bs wr p' len' ((zs ++ ys).drop (64 * k))) ∧ Hid (w.grownBy wr (some b))) (fun v _ => lenOf v)
    case atStart => exact ⟨p1, len1, cap1, k1, blk1, rfl, hA1, hB1, hC1, hD1⟩
    case round =>
      clear hA1 hB1 hC1 hD1
      obtain ⟨p2, len2, cap2, k, blk2, rfl, hA, hB, hC, hD⟩ := hrel
      have HK2 := Lib.hid (HK.out.grown hD.out HB0.out)
      by_cases hlt : 64 ≤ len2
      · have hlt' : (64 : Int) ≤ (len2 : Int) := by omega
        obtain ⟨hA1, hA2, hA3, hA4⟩ := hA.out
        have hA1' : (64 : Int) ≤ (cap2 : Int) := by omega
        obtain ⟨p3, hs3, hbs3, hn3⟩ := hC.out.slice_to 22 5 Tryd.underlying22 (fun _ => by kernel_rfl) cap2 64 hA1 hlt
        obtain ⟨p4, hs4, hbs4, hn4⟩ := hC.out.slice_from 22 5 Tryd.underlying22 (fun _ => by kernel_rfl) cap2 64 hA1 hlt
        have HB4 : Hid (Away p4 (len2 - 64) b) := Lib.hid (by
          rcases hA4 with h00 | hne
          · exact Or.inl (by omega)
          · refine Or.inr fun a ha => ?_
            obtain ⟨a0, h0, h1⟩ := slice_from_block 22 5 Tryd.underlying22 (fun _ => by kernel_rfl) len2 cap2 64 hA1 hlt (hs4 w) a ha
            rw [h1]; exact hne a0 h0)
        rw [show ((64 : Nat) : Int) = 64 from rfl] at hs3 hs4
        have HBS3 := Lib.hid hbs3
        have HBS4 := Lib.hid hbs4
        have HC64 := Lib.hid (show 64 ≤ cap2 by omega)
        have HCM := Lib.hid hA2
        have HA3 := Lib.hid hA3
        have HSO := Lib.hid (runS_ok hS_ok (zs ++ ys) k (ks := kS))
        generalize hS0 : runS kS hS (zs ++ ys) k = S0 at *
        have HS0 := Lib.hid hS0
        clear hS0 hbs3 hbs4 hn3 hn4 hA2 hA3 hA4
        obtain ⟨c0, c1, c2, c3, c4, c5, c6, c7⟩ := hB.out.st8
        have HBD := Lib.hid (show Below wr.heap.size wr wr.drew from (Below.refl _ _).drew)
        go_wp2
        go_region_law (first | (go_simp; go_at_call 51; refine (mixed_any S0 p3 64 cap2 _ _ HSO.out rfl (HBS3.out.later HBD.out) HC64.out HCM.out (HK2.out.later HBD.out HK2.out.pos)).mono ?_; rintro e w3 ⟨rfl, hb3⟩; rw [ucs_lit]; generalize hTT : mixB kS S0 (((zs ++ ys).drop (64 * k)).take 64) = T; have HTT := Lib.hid hTT; clear hTT; have HB3 := Lib.hid hb3; have H3 := Lib.hid (hB.out.later (below_step HBD.out hb3)); obtain ⟨d0, d1, d2, d3, d4, d5, d6, d7⟩ := H3.out.st8; obtain ⟨f0, f1, f2, f3, f4, f5, f6, f7⟩ := H3.out.fr8; clear hb3))
        have HR : Hid (∃ p' len' cap' k blk', Value.slice p4 (len2 - 64) (cap2 - 64) = .slice p' len' cap' ∧ Hid (len' ≤ cap' ∧ cap' ≤ maxLen ∧ 64 * k + len' = n + len ∧ Away p' len' b) ∧ Hid (Hb (w3.setCells b 0 (T.list.map uv)) b (runS kS hS (zs ++ ys) k) blk' (n + len)) ∧ Hid (Bs (w3.setCells b 0 (T.list.map uv)) p' len' ((zs ++ ys).drop (64 * k))) ∧ Hid (w.grownBy (w3.setCells b 0 (T.list.map uv)) (some b))) := by
          have hA3 := HA3.out
          have hcm := HCM.out
          have HQ4 := grown_setCells (grown_below (grown_drew (grown_refl wr (some b))) HB3.out) (T.list.map uv) 0
          refine Lib.hid ⟨p4, len2 - 64, cap2 - 64, k + 1, blk2, rfl, Lib.hid ⟨by omega, by omega, by omega, HB4.out⟩, Lib.hid ?_, Lib.hid ?_, Lib.hid (grown_trans hD.out HQ4)⟩
          · have e : runS kS hS (zs ++ ys) (k + 1) = T := by rw [← HTT.out, mixB_take, ← HS0.out]; rfl
            rw [e]; exact H3.out.setState T
          · have e : (zs ++ ys).drop (64 * (k + 1)) = ((zs ++ ys).drop (64 * k)).drop 64 := by rw [List.drop_drop]; congr 1
            rw [e]
            exact HBS4.out.grown HQ4 HB4.out
        generalize hW4 : w3.setCells b 0 (T.list.map uv) = w4 at HR
        have hw4 : (((((((w3.setCell ⟨b, 0, none⟩ (.int .u32 (T.a : Int))).setCell ⟨b, 1, none⟩ (.int .u32 (T.b : Int))).setCell ⟨b, 2, none⟩ (.int .u32 (T.c : Int))).setCell ⟨b, 3, none⟩ (.int .u32 (T.d : Int))).setCell ⟨b, 4, none⟩ (.int .u32 (T.e : Int))).setCell ⟨b, 5, none⟩ (.int .u32 (T.f : Int))).setCell ⟨b, 6, none⟩ (.int .u32 (T.g : Int))).setCell ⟨b, 7, none⟩ (.int .u32 (T.h : Int)) = w4 := hW4
        rw [hw4]
        clear hW4 hw4 d0 d1 d2 d3 d4 d5 d6 d7 f0 f1 f2 f3 f4 f5 f6 f7 c0 c1 c2 c3 c4 c5 c6 c7
        go_wp2
        refine ⟨?_, by simp [lenOf]; omega⟩
        first
          | exact HR.out
          | ((repeat apply Exists.intro); refine ⟨?rel, rfl⟩; exact HR.out)
      · have hlt' : decide ((64 : Int) ≤ (len2 : Int)) = false := by simp; omega
        obtain ⟨hA1, hA2, hA3, hA4⟩ := hA.out
        have HMI : Hid (len2 = Nat.min len2 64) := Lib.hid (Nat.min_eq_left (a := len2) (b := 64) (by omega)).symm
        have HLT := Lib.hid hlt
        have HA3 := Lib.hid hA3
        clear hlt hA1 hA2 hA3 hA4
        go_wp2_with (refine wpList_copy_hb rfl _ _ rfl b 0 64 64 _ _ _ p2 len2 cap2 _ len2 rfl rfl hB.out hC.out HMI.out (by omega) ?_; intro w2 hH2 hG2; have H2 := Lib.hid hH2; have HG2 := Lib.hid hG2; clear hH2 hG2)
        go_end0
        have hlt := HLT.out
        have hA3 := HA3.out
        have hl := hC.out.len
        refine ⟨rfl, ⟨blkPut blk2 0 (((zs ++ ys).drop (64 * k)).take len2), ?_, ?_⟩, grown_trans hD.out HG2.out⟩
        · rw [HA.out, show (n + len) / 64 = k by omega]
          exact H2.out
        · rw [HA.out, show (n + len) / 64 = k by omega, show (n + len) % 64 = len2 by omega]
          unfold blkPut
          rw [List.take_zero, List.nil_append, List.take_append_of_le_length (by rw [List.length_take, hl]; omega), List.take_take, Nat.min_self, List.take_of_length_le (by omega)]
end Go.Proofs.YtlggbicjgddnaaaDoor
