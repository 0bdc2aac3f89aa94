/- The law SlotsDoes, walked under contracts -/
import Derived.Test.YtfdmpbhgejahaaaSl6
import Derived.Test.YtfdmpbhgejahaaaSl14
import Derived.Test.YtfdmpbhgejahaaaSl20
import Derived.Test.YtfdmpbhgejahaaaSl22
set_option linter.unusedSimpArgs false
set_option linter.unusedVariables false
namespace Go.Proofs.Ytfdmpbhgejahaaa
set_option linter.unusedVariables false
open Go.RowKit Go.Lib

theorem Chg.trans {S : Nat → Prop} {A B C : World} (h : Chg S A B) (k : Chg S B C) : Chg S A C :=
  ⟨k.os.trans h.os, k.tape.trans h.tape, k.output.trans h.output, Nat.le_trans h.size k.size, fun j hj hs => (k.block j (Nat.lt_of_lt_of_le hj h.size) hs).trans (h.block j hj hs)⟩
theorem yw_range {W : World} {b : Nat} {d : List Int} (h : Yw W b 30 d) : W.rangeAt b 0 (d.map (Value.int .u8)) := fun i v hv => by
  rw [Nat.zero_add]
  have h1 : W.heap[b]? = some (.cells (bcs d) 30 (0, 0)) := h
  rw [cell_of_row W b i _ _ _ h1]
  simpa [bcs] using hv
theorem dig_lay {W W' : World} {b : Nat} {d : List Int} (hb : W.heap.size = b) (h : (W.alloc (.cells (bcs dzero) 30)).setRow b (bcs d) = W') : Yw W' b 30 d ∧ Below W.heap.size W W' := by
  subst hb h
  have h1 : Yw (W.alloc (.cells (bcs dzero) 30)) W.heap.size 30 dzero := heap_alloc_new _ _
  exact ⟨h1.row, below_setRow8 ((Below.refl _ _).alloc (Nat.le_refl _) _) _ _ (Nat.le_refl _)⟩
theorem rng_dig18 {W : World} {b : Nat} {d : List Int} (h : W.rangeAt b 0 (d.map (Value.int .u8))) (hd : d.length = 32) : (Instr.loadAt 30 (.pointer (some ⟨b, 0, none⟩))).run Try.prog W = .ok (.agg (bcs d)) W := by
  have h1 := run_loadAt_mid W b 0 30 _ _ h Try.underlying30 rfl (by rw [List.length_map, hd]; exact size32)
  rw [h1]
  rfl
theorem putN_dk {N N2 : List Px} {d : List Int} (hN : ∀ x ∈ N, dok x.1.dg) (hd : dok d) (h : ∀ x ∈ N2, x ∈ N ∨ x.1.dg = d) : ∀ x ∈ N2, dok x.1.dg := fun x hx => by
  rcases h x hx with h1 | h1
  · exact hN x h1
  · rw [h1]; exact hd
set_option maxRecDepth 100000 in
set_option maxHeartbeats 8000000 in
theorem slotsdoes_any {Tb : World → (Nat → Prop) → Value → List Pr → Int → Prop} (hT : TabOk Tb) (hR : TabRow Tb) (a0 : Option Addr) (n ca : Nat) (A : List Dx18) (w : World) (h : Gs encDe w a0 n A) (hk : ∀ x ∈ A, x.1.Ok) (hn : n ≤ 1048576) :
    Calls Try.prog 3 #[.slice a0 n ca] w fun e w' => e = .returned (.bool true) ∧ Below w.heap.size w w' := by
  have HT := Lib.hid hT
  have HROW : Hid (TabRow Tb) := Lib.hid hR
  have H := Lib.hid h
  have HK := Lib.hid hk
  have HNN := Lib.hid hn
  have HNEW := Lib.hid rnew18_any
  have HLV := Lib.hid fun W => lives18_any hT W
  have HSZ : Hid ((Try.prog.info? 30).map (·.size) = some 32) := Lib.hid size32
  clear hT hR h hk hn
  unfold tabV at HNEW
  go_enter Try.func3, Try.ntmps3
  go_wp2_with fail
  refine (HT.out.new _).mono ?_
  rintro e w1 ⟨v, S0, rfl, ht1, hb1, hs1⟩
  have HT1 := Lib.hid ht1
  have HB1 := Lib.hid hb1
  have HS1 := Lib.hid hs1
  clear ht1 hb1 hs1
  go_wp2_with fail
  refine (HNEW.out _).mono ?_
  rintro e w2 ⟨rfl, hb2⟩
  obtain ⟨w3, hw3⟩ : ∃ W, w2.alloc (.cells #[.slice none 0 0, .int .i64 8] 27) = W := ⟨_, rfl⟩
  obtain ⟨bR, hbR⟩ : ∃ x, w2.heap.size = x := ⟨_, rfl⟩
  have hb3 : Below w2.heap.size w2 w3 := by rw [← hw3]; exact (Below.refl _ _).alloc (Nat.le_refl _) _
  have hr3 : Bt w3 bR (.slice none 0 0) 8 := by rw [← hw3, ← hbR]; exact heap_alloc_new _ _
  have HLO : Hid (LoS Tb w w3 v bR S0 [] 8 none 0 0 []) := Lib.hid ⟨HT.out.later (HT.out.later HT1.out hb2) hb3, hr3, Gw.nil _ _ _, rfl, by simp, List.nodup_nil, fun e => by
      have h1 := HT.out.lt HT1.out _ e
      have h2 := hb2.size
      omega, fun g hg => (by cases hg), HS1.out, by have := HB1.out.size; have := hb2.size; omega, below_step (below_step HB1.out hb2) hb3⟩
  clear hb2 hb3 hr3 HT1 HB1 HS1 HNEW
  go_wp2
  clear hw3 hbR
  go_loopw [5] (fun iv wr => ∃ (k : Nat) (S : Nat → Prop) (L : List Pr) (s : Int) (p : Option Addr) (m c : Nat) (N : List Px), k ≤ n ∧ iv = .int .i64 (k : Int) ∧ Hid (LoS Tb w wr v bR S L s p m c N) ∧ Hid (L.length ≤ k ∧ 0 ≤ s ∧ s ≤ 8 + 4 * (k : Int))) (fun iv _ => n - (intS iv).toNat)
  case atStart => exact ⟨0, S0, [], 8, none, 0, 0, [], by omega, rfl, HLO, Lib.hid ⟨by simp, by omega, by omega⟩⟩
  case round =>
    obtain ⟨k, S, L, s, p, m, c, N, hkn, rfl, HL, HNK⟩ := hrel
    by_cases hlt : k < n
    · obtain ⟨b1, off, x, rfl, hx1, hx3, hr⟩ := (H.out.later HL.out.le).de k hlt
      obtain ⟨c0, _, c33⟩ := de_cells hr
      have HLDG := Lib.hid (de_dig hr)
      have HOK := Lib.hid (HK.out x hx3)
      have HVV : Hid (∀ W, Below w.heap.size w W → W.cell? ⟨b1, off + k * 34 + 33, none⟩ = some (.int .i64 x.1.v)) := Lib.hid fun W hW => by
        obtain ⟨b2, off2, z, hp2, hz1, _, hr2⟩ := (H.out.later hW).de k hlt
        simp only [Option.some.injEq, Addr.mk.injEq, and_true] at hp2
        obtain ⟨rfl, rfl⟩ := hp2
        rw [hx1] at hz1
        obtain rfl := Option.some.inj hz1
        exact (de_cells hr2).2.2
      have HC0 : Hid (∀ W, Below w.heap.size w W → W.cell? ⟨b1, off + k * 34, none⟩ = some (.int .i64 x.1.k)) := Lib.hid fun W hW => by
        obtain ⟨b2, off2, z, hp2, hz1, _, hr2⟩ := (H.out.later hW).de k hlt
        simp only [Option.some.injEq, Addr.mk.injEq, and_true] at hp2
        obtain ⟨rfl, rfl⟩ := hp2
        rw [hx1] at hz1
        obtain rfl := Option.some.inj hz1
        exact (de_cells hr2).1
      have hki : (k : Int) < (n : Int) := by omega
      have hnb := HNN.out
      have hk0 : (0 : Int) ≤ (k : Int) := by omega
      obtain ⟨d, hd⟩ : ∃ y, x.1.dg = y := ⟨_, rfl⟩
      obtain ⟨kd, hkd⟩ : ∃ y, x.1.k = y := ⟨_, rfl⟩
      obtain ⟨vv, hvv⟩ : ∃ y, x.1.v = y := ⟨_, rfl⟩
      have HDK : Hid (dok d) := Lib.hid (by rw [← hd]; exact HOK.out.dg)
      rw [hd] at HLDG
      rw [hkd] at c0 HC0
      rw [hvv] at c33 HVV
      obtain ⟨bD, hbD⟩ : ∃ g, wr.heap.size = g := ⟨_, rfl⟩
      have HYZ : Hid (Yw (wr.alloc (.cells (bcs dzero) 30)) bD 30 dzero) := Lib.hid (by rw [← hbD]; exact heap_alloc_new _ _)
      have HBDE := Lib.hid hbD
      have HS1 : Hid ((Try.prog.info? 30).map (·.size) = some (bcs d).size) := Lib.hid (by rw [bcs_size, HDK.out.1]; exact HSZ.out)
      have HS2 : Hid ((bcs dzero).size = (bcs d).size) := Lib.hid (by rw [bcs_size, bcs_size, HDK.out.1]; rfl)
      have HML0 : Hid (m ≤ 1048576) := Lib.hid (by have h1 := HL.out.len; have h2 := HNK.out.1; have h3 := HNN.out; omega)
      have HLL : Hid (L.length ≤ 1048576) := Lib.hid (by have h2 := HNK.out.1; have h3 := HNN.out; omega)
      have HYR : Hid (∀ W, Yw W bD 30 d → W.rangeAt bD 0 (d.map (Value.int .u8))) := Lib.hid fun W hW => yw_range hW
      clear hr hx1 hx3 HOK hd hkd hvv c33
      go_upto_region 7 with (first
        | (refine wpList_ld rfl 30 _ rfl _ rfl _ HLDG.out ?_)
        | (refine wpList_store_row rfl 30 _ _ rfl bD _ rfl rfl 30 _ HYZ.out HS1.out HS2.out (bcs_one _) ?_; generalize hw2 : World.setRow _ _ _ = wB))
      obtain ⟨hyB, hbB⟩ := dig_lay HBDE.out hw2
      have HYB := Lib.hid hyB
      have HLB := Lib.hid (HL.out.later HT.out hbB)
      have HBD : Hid (bD < wB.heap.size ∧ ¬ S bD) := Lib.hid ⟨HYB.out.lt, fun e => by have := HT.out.lt HL.out.tb bD e; have := HBDE.out; omega⟩
      have HBR : Hid (bR ≠ bD) := Lib.hid (by have := HL.out.bt.lt; have := HBDE.out; omega)
      have HHB := Lib.hid hbB
      have ck := HC0.out wB HLB.out.le
      clear hyB hbB hw2 hbD HYZ HS1 HS2 HLDG c0
      by_cases h0 : kd = 0
      · have hq0 : ((kd : Int) == 0) = true := by rw [h0]; rfl
        clear h0
        obtain ⟨s2, hs2⟩ : ∃ x, slotsN L s d = x := ⟨_, rfl⟩
        obtain ⟨L2, hL2⟩ : ∃ x, putN L d vv = x := ⟨_, rfl⟩
        have HS2 := Lib.hid hs2
        have HL2 := Lib.hid hL2
        have HNB : Hid (L2.length ≤ k + 1 ∧ 0 ≤ s2 ∧ s2 ≤ 8 + 4 * ((k + 1 : Nat) : Int)) := Lib.hid (by
          have h1 := HNK.out
          have h2 := slotsN_bd (d := d) h1.1 h1.2.1 h1.2.2
          have h3 := cutN_length L d
          rw [hs2] at h2
          refine ⟨?_, h2.1, h2.2⟩
          rw [← hL2, putN_length]
          omega)
        have HSB : Hid (0 ≤ s ∧ s ≤ 16777216) := Lib.hid (by have h1 := HNK.out; have h2 := HNN.out; omega)
        have HSZL : Hid ((Try.prog.info? 30).map (·.size) = some (d.map (Value.int .u8)).length) := Lib.hid (by rw [List.length_map, HDK.out.1]; exact HSZ.out)
        have HSS := Lib.hid fun W (hW : Below wB.heap.size wB W) => And.intro (HYR.out W (HYB.out.later hW)) (HVV.out W (below_step HLB.out.le hW))
        clear hs2 hL2
        go_wp2
        refine wp_region_held_drew (S := (fun W : World => W.rangeAt bD 0 (d.map (Value.int .u8)) ∧ W.cell? ⟨b1, off + k * 34 + 33, none⟩ = some (.int .i64 vv))) (by kernel_rfl) (HSS.out _ (Below.refl _ _).drew) (fun hHeld => ?_)
        refine take_at 0 (v := ?vv1) rfl (by kernel_rfl) (by kernel_rfl) (by kernel_rfl) (fun _ _ _ h => h) (Or.inl ⟨by rfl, ?hy1⟩) (by assumption) ?rest1
        case hy1 => intro w hSw; (try dsimp only at hSw); go_simp; (try with_reducible rfl)
        (try simp only [Act.put, List.setIfInBounds_toArray, List.set_cons_zero, List.set_cons_succ])
        refine take_at 1 rfl (by kernel_rfl) (by kernel_rfl) (by kernel_rfl) (fun _ _ _ h => h) (yieldsIf_load_mid (by rfl) _ _ rfl _ _ rfl _ _ (fun _ h => h.1) Try.underlying30 rfl HSZL.out) (by assumption) ?_
        (try simp only [Act.put, List.setIfInBounds_toArray, List.set_cons_zero, List.set_cons_succ])
        refine take_at 2 (v := ?vv3) rfl (by kernel_rfl) (by kernel_rfl) (by kernel_rfl) (fun _ _ _ h => h) (Or.inl ⟨by rfl, ?hy3⟩) (by assumption) ?rest3
        case hy3 => intro w hSw; (try dsimp only at hSw); go_simp; (try with_reducible rfl)
        (try simp only [Act.put, List.setIfInBounds_toArray, List.set_cons_zero, List.set_cons_succ])
        refine take_at 3 (v := ?vv4) rfl (by kernel_rfl) (by kernel_rfl) (by kernel_rfl) (fun _ _ _ h => h) (Or.inl ⟨by rfl, ?hy4⟩) (by assumption) ?rest4
        case hy4 => intro w hSw; (try dsimp only at hSw); go_simp; (try with_reducible rfl)
        (try simp only [Act.put, List.setIfInBounds_toArray, List.set_cons_zero, List.set_cons_succ])
        refine take_at 4 (v := ?vv5) rfl (by kernel_rfl) (by kernel_rfl) (by kernel_rfl) (fun _ _ _ h => h) (Or.inl ⟨by rfl, ?hy5⟩) (by assumption) ?rest5
        case hy5 => intro w hSw; (try dsimp only at hSw); go_simp; (try with_reducible rfl)
        (try simp only [Act.put, List.setIfInBounds_toArray, List.set_cons_zero, List.set_cons_succ])
        refine take_at 5 (v := ?vv6) rfl (by kernel_rfl) (by kernel_rfl) (by kernel_rfl) (fun _ _ _ h => h) (Or.inl ⟨by rfl, ?hy6⟩) (by assumption) ?rest6
        case hy6 => intro w hSw; (try dsimp only at hSw); go_simp; (try with_reducible rfl)
        (try simp only [Act.put, List.setIfInBounds_toArray, List.set_cons_zero, List.set_cons_succ])
        refine take_at 6 (v := ?vv7) rfl (by kernel_rfl) (by kernel_rfl) (by kernel_rfl) (fun _ _ _ h => h) (Or.inl ⟨by rfl, ?hy7⟩) (by assumption) ?rest7
        case hy7 => intro w hSw; (try dsimp only at hSw); go_simp; (try with_reducible rfl)
        (try simp only [Act.put, List.setIfInBounds_toArray, List.set_cons_zero, List.set_cons_succ])
        refine ready_at 7 rfl (by kernel_rfl) (fun K hK => ?_)
        go_simp
        refine (HT.out.put d vv (HLB.out.later HT.out (Below.refl _ _).drew).tb HDK.out HLL.out).mono ?_
        rintro e w4 ⟨S4, rfl, ht4, hc4, hs4⟩
        rw [HS2.out, HL2.out] at ht4
        have HT4 := Lib.hid ht4
        have HC4 : Hid (Chg S wB w4) := Lib.hid ((Below.chg (Below.refl _ _).drew : Chg S wB wB.drew).trans hc4)
        have HS4 : Hid (∀ b, S4 b → S b ∨ wB.heap.size ≤ b) := Lib.hid hs4
        have HM4 := Lib.hid (HLB.out.mid HC4.out)
        have HY4 : Hid (Yw w4 bD 30 d) := Lib.hid ((HC4.out.block bD HBD.out.1 HBD.out.2).trans HYB.out)
        have HK4 := Lib.hid (And.intro (HYR.out w4 HY4.out) (HVV.out w4 HM4.out.le))
        clear ht4 hc4 hs4
        first
          | refine hK.out _ _ ?hS8 (fun hHeld => ?rest8)
          | (go_wp2_with fail; refine hK.out _ _ ?hS8 (fun hHeld => ?rest8))
        case hS8 => exact HK4.out
        clear hK K
        (try simp only [Act.put, List.setIfInBounds_toArray, List.set_cons_zero, List.set_cons_succ])
        refine wpAnyH_done (by kernel_rfl) ?_ _
        go_wp2
        have HPU : Hid (∀ W, Below w4.heap.size w4 W → Calls Try.prog 9 #[tabV p m c s, .agg (bcs d), .int .i64 vv] W fun e w' => RpuQ W N d vv s2 e w') := Lib.hid fun W hW => by
          have h1 := rput18_any p m c s N d vv W (HM4.out.later hW).gw.gs HLB.out.dk HDK.out HML0.out HSB.out
          rwa [HLB.out.nl, HS2.out] at h1
        have HL0 : Hid (∀ W : World, (Bt W bR (.slice p m c) s ∧ W.rangeAt bD 0 (d.map (Value.int .u8)) ∧ W.cell? ⟨b1, off + k * 34 + 33, none⟩ = some (.int .i64 vv)) → (Instr.loadAt 27 (.pointer (some ⟨bR, 0, none⟩))).run Try.prog W = .ok (tabV p m c s) W) := Lib.hid fun W h => h.1.load
        have HL1 : Hid (∀ W : World, (Bt W bR (.slice p m c) s ∧ W.rangeAt bD 0 (d.map (Value.int .u8)) ∧ W.cell? ⟨b1, off + k * 34 + 33, none⟩ = some (.int .i64 vv)) → (Instr.loadAt 30 (.pointer (some ⟨bD, 0, none⟩))).run Try.prog W = .ok (.agg (bcs d)) W) := Lib.hid fun W h => rng_dig18 h.2.1 HDK.out.1
        refine wp_region_x (fun W : World => Bt W bR (.slice p m c) s ∧ W.rangeAt bD 0 (d.map (Value.int .u8)) ∧ W.cell? ⟨b1, off + k * 34 + 33, none⟩ = some (.int .i64 vv)) 8 (by kernel_rfl) ?_
        have hHeld : (fun W : World => Bt W bR (.slice p m c) s ∧ W.rangeAt bD 0 (d.map (Value.int .u8)) ∧ W.cell? ⟨b1, off + k * 34 + 33, none⟩ = some (.int .i64 vv)) _ := And.intro ((HM4.out.later (Below.refl _ _).drew).bt) (And.intro (HYR.out _ (HY4.out.later (Below.refl _ _).drew)) (HVV.out _ (HM4.out.later (Below.refl _ _).drew).le))
        refine takex 0 rfl (by kernel_rfl) (by kernel_rfl) (by kernel_rfl) (by kernel_rfl) (by kernel_rfl) (fun _ _ _ h => h) (yieldsIf_ld (by rfl) 27 (.tmp 4) rfl (.pointer (some ⟨bR, 0, none⟩)) rfl (tabV p m c s) (HL0.out)) hHeld ?_
        (try simp only [Act.put, List.setIfInBounds_toArray, List.set_cons_zero, List.set_cons_succ])
        refine takex 1 rfl (by kernel_rfl) (by kernel_rfl) (by kernel_rfl) (by kernel_rfl) (by kernel_rfl) (fun _ _ _ h => h) (yieldsIf_ld (by rfl) 30 (.tmp 6) rfl (.pointer (some ⟨bD, 0, none⟩)) rfl (.agg (bcs d)) (HL1.out)) hHeld ?_
        (try simp only [Act.put, List.setIfInBounds_toArray, List.set_cons_zero, List.set_cons_succ])
        refine takex 2 (v := ?vv11) rfl (by kernel_rfl) (by kernel_rfl) (by kernel_rfl) (by kernel_rfl) (by kernel_rfl) (fun _ _ _ h => h) (Or.inl ⟨by rfl, ?hy11⟩) hHeld ?rest11
        case hy11 => intro w hSw; (try dsimp only at hSw); go_simp; (try with_reducible rfl)
        (try simp only [Act.put, List.setIfInBounds_toArray, List.set_cons_zero, List.set_cons_succ])
        refine takex 3 (v := ?vv12) rfl (by kernel_rfl) (by kernel_rfl) (by kernel_rfl) (by kernel_rfl) (by kernel_rfl) (fun _ _ _ h => h) (Or.inl ⟨by rfl, ?hy12⟩) hHeld ?rest12
        case hy12 => intro w hSw; (try dsimp only at hSw); go_simp; (try with_reducible rfl)
        (try simp only [Act.put, List.setIfInBounds_toArray, List.set_cons_zero, List.set_cons_succ])
        refine takex 4 (v := ?vv13) rfl (by kernel_rfl) (by kernel_rfl) (by kernel_rfl) (by kernel_rfl) (by kernel_rfl) (fun _ _ _ h => h) (Or.inl ⟨by rfl, ?hy13⟩) hHeld ?rest13
        case hy13 => intro w hSw; (try dsimp only at hSw); go_simp; (try with_reducible rfl)
        (try simp only [Act.put, List.setIfInBounds_toArray, List.set_cons_zero, List.set_cons_succ])
        refine takex 5 (v := ?vv14) rfl (by kernel_rfl) (by kernel_rfl) (by kernel_rfl) (by kernel_rfl) (by kernel_rfl) (fun _ _ _ h => h) (Or.inl ⟨by rfl, ?hy14⟩) hHeld ?rest14
        case hy14 => intro w hSw; (try dsimp only at hSw); go_simp; (try with_reducible rfl)
        (try simp only [Act.put, List.setIfInBounds_toArray, List.set_cons_zero, List.set_cons_succ])
        refine takex 6 (v := ?vv15) rfl (by kernel_rfl) (by kernel_rfl) (by kernel_rfl) (by kernel_rfl) (by kernel_rfl) (fun _ _ _ h => h) (Or.inl ⟨by rfl, ?hy15⟩) hHeld ?rest15
        case hy15 => intro w hSw; (try dsimp only at hSw); go_simp; (try with_reducible rfl)
        (try simp only [Act.put, List.setIfInBounds_toArray, List.set_cons_zero, List.set_cons_succ])
        refine readyx 7 rfl (by kernel_rfl) (fun K hK => ?_)
        go_simp
        refine (HPU.out _ (Below.refl _ _).drew).mono ?_
        rintro e w5 ⟨q, m2, c2, N2, rfl, hn2, hg2, hk2, hb2⟩
        unfold tabV
        rw [HLB.out.nl, HL2.out] at hn2
        have HN2 := Lib.hid hn2
        have HG2 : Hid (Gw encPr w5 w4.heap.size (.slice q m2 c2) N2) := Lib.hid (hg2.mono (Nat.le_add_right _ 2))
        have HK2 := Lib.hid hk2
        have HB2 : Hid (Below w4.heap.size w4 w5) := Lib.hid (below_step (Below.refl _ _).drew hb2)
        have HM5 := Lib.hid (HM4.out.later HB2.out)
        have HY5 := Lib.hid (HY4.out.later HB2.out)
        have HK5 := Lib.hid (And.intro HM5.out.bt (And.intro (HYR.out w5 HY5.out) (HVV.out w5 HM5.out.le)))
        obtain ⟨y0, y1, yf0, yf1⟩ := HM5.out.bt.cells
        clear hn2 hg2 hk2 hb2
        first
          | refine hK.out _ _ ?hS16 ?rest16
          | (go_wp2_with fail; refine hK.out _ _ ?hS16 ?rest16)
        case hS16 => exact HK5.out
        clear hK K hHeld
        have hHeld : (fun W : World => Bt W bR (.slice p m c) s ∧ W.rangeAt bD 0 (d.map (Value.int .u8)) ∧ W.cell? ⟨b1, off + k * 34 + 33, none⟩ = some (.int .i64 vv)) _ := HK5.out
        (try simp only [Act.put, List.setIfInBounds_toArray, List.set_cons_zero, List.set_cons_succ])
        refine lastx 8 rfl (by kernel_rfl) (by kernel_rfl) (fun K hK => ?_)
        go_simp
        first
          | refine hK.out _ _ ?_
          | (go_wp2_with fail; refine hK.out _ _ ?_)
        clear hK K hHeld
        have HLE := Lib.hid (HLB.out.next HT.out HT4.out HC4.out HS4.out HB2.out HG2.out HN2.out (putN_dk HLB.out.dk HDK.out HK2.out) (HL2.out ▸ putN_uniq HLB.out.un d vv))
        have HYE : Hid (Yw ((w5.setCell ⟨bR, 0, none⟩ (.slice q m2 c2)).setCell ⟨bR, 1, none⟩ (.int .i64 s2)) bD 30 d) := Lib.hid (by
          unfold Yw
          rw [heap_setCell_other _ ⟨bR, 1, none⟩ bD _ (fun e => HBR.out e.symm), heap_setCell_other _ ⟨bR, 0, none⟩ bD _ (fun e => HBR.out e.symm)]
          exact HY5.out)
        have HML : Hid (m2 ≤ 1048576) := Lib.hid (by have h1 := HLE.out.len; have h2 := HNB.out.1; have h3 := HNN.out; omega)
        generalize (w5.setCell ⟨bR, 0, none⟩ (.slice q m2 c2)).setCell ⟨bR, 1, none⟩ (.int .i64 s2) = w6 at *
        clear HL HLB HT4 HC4 HS4 HM4 HY4 HK4 HN2 HG2 HK2 HB2 HM5 HY5 HK5 HPU HL0 HL1 HSS y0 y1 yf0 yf1 ck hq0
        have HRG := Lib.hid fun U (hU : Below w6.heap.size w6 U) => HT.out.get d (HT.out.later HLE.out.tb hU) HDK.out
        have HRR := Lib.hid fun U (hU : Below w6.heap.size w6 U) => rget18_any q m2 c2 s2 N2 d U (HLE.out.gw.gs.later hU) HLE.out.dk HDK.out HML.out
        have HDL := Lib.hid fun U (hU : Below w6.heap.size w6 U) => dig_load (HYE.out.later hU) HDK.out.1
        have HTL := Lib.hid fun U (hU : Below w6.heap.size w6 U) => (HLE.out.bt.later hU).load
        have HLN := Lib.hid fun U (hU : Below w6.heap.size w6 U) => HT.out.len (HT.out.later HLE.out.tb hU)
        have HSL := Lib.hid fun U (hU : Below w6.heap.size w6 U) => HT.out.slots (HT.out.later HLE.out.tb hU)
        have HCE := Lib.hid fun U (hU : Below w6.heap.size w6 U) => (HLE.out.bt.later hU).cells
        rw [HLE.out.len] at HLN
        rw [HLE.out.nl] at HRR
        obtain ⟨gv, hgv⟩ : ∃ x, (getN L2 d).getD 0 = x := ⟨_, rfl⟩
        obtain ⟨gb, hgb⟩ : ∃ x, (getN L2 d).isSome = x := ⟨_, rfl⟩
        rw [hgv, hgb] at HRG HRR
        unfold tabV at HRR HTL
        have HRF := Lib.hid (Below.refl w6.heap.size w6)
        obtain ⟨DM, hDM⟩ : ∃ x, bcs d = x := ⟨_, rfl⟩
        rw [hDM] at HRG HRR HDL
        clear hDM hgv hgb
        go_wp2_with (first
          | (refine wpList_ld rfl 30 _ rfl _ rfl _ (HDL.out _ HB8.out) ?_)
          | (refine wpList_ld rfl 30 _ rfl _ rfl _ (HDL.out _ HRF.out) ?_)
          | (refine wpList_ld rfl 27 _ rfl _ rfl _ (HTL.out _ HB8.out) ?_)
          | (go_at_call 13; refine (HRG.out _ HRF.out).mono ?_; rintro e w8 ⟨rfl, hb8⟩; have HB8 := Lib.hid hb8; clear hb8)
          | (go_at_call 10; refine (HRR.out _ HB8.out).mono ?_; rintro e w9 ⟨rfl, hb9⟩; have HB9 := Lib.hid (below_step HB8.out hb9); clear hb9))
        have CL := Lib.hid fun (U : Fut w9.heap.size w9) => (Calls.fut (Nat.le_refl _) (HLN.out U.W (below_step HB9.out U.le)) : Calls Try.prog 14 #[v] U.W fun e w' => e = .returned (.int .i64 (m2 : Int)) ∧ ∃ V : Fut w9.heap.size w9, w' = V.W)
        have CS := Lib.hid fun (U : Fut w9.heap.size w9) => (Calls.fut (Nat.le_refl _) (HSL.out U.W (below_step HB9.out U.le)) : Calls Try.prog 15 #[v] U.W fun e w' => e = .returned (.int .i64 s2) ∧ ∃ V : Fut w9.heap.size w9, w' = V.W)
        have hq0 := fun (U : Fut w9.heap.size w9) => (HCE.out U.W (below_step HB9.out U.le)).1
        have hq1 := fun (U : Fut w9.heap.size w9) => (HCE.out U.W (below_step HB9.out U.le)).2.1
        refine wp_region_quiet_fut w9.heap.size (by kernel_rfl) (by kernel_rfl) ?_
        repeat (first
          | (quiet_step (first
            | (go_at_call 14; exact CL.out _)
            | (go_at_call 15; exact CS.out _))))
        refine wpQuiet_nil ?_
        intro wz hw'
        obtain ⟨U4, hU4⟩ := hw'
        have hbz : Below w9.heap.size w9 wz := by rw [hU4]; exact U4.le
        have HBZ := Lib.hid (below_step HB9.out hbz)
        clear hU4 U4 hbz hq0 hq1 CL CS
        go_wp2
        exact ⟨⟨k + 1, _, _, _, _, _, _, _, by omega, by go_num, Lib.hid (HLE.out.later HT.out HBZ.out), HNB⟩, by simp [intS] <;> omega⟩
      · have hq0 : ((kd : Int) == 0) = false := by rw [beq_eq_false_iff_ne]; exact h0
        by_cases h1 : kd = 1
        · have hq1 : ((kd : Int) == 1) = true := by rw [h1]; rfl
          clear h0 h1
          obtain ⟨L2, hL2⟩ : ∃ x, cutN L d = x := ⟨_, rfl⟩
          have HL2 := Lib.hid hL2
          have HNB : Hid (L2.length ≤ k + 1 ∧ 0 ≤ s ∧ s ≤ 8 + 4 * ((k + 1 : Nat) : Int)) := Lib.hid (by
            have h1 := HNK.out
            have h3 := cutN_length L d
            rw [hL2] at h3
            omega)
          have HRR := Lib.hid fun U (hU : Below wB.heap.size wB U) => rget18_any p m c s N d U (HLB.out.gw.gs.later hU) HLB.out.dk HDK.out HML0.out
          have HDL := Lib.hid fun U (hU : Below wB.heap.size wB U) => dig_load (HYB.out.later hU) HDK.out.1
          have HTL := Lib.hid fun U (hU : Below wB.heap.size wB U) => (HLB.out.bt.later hU).load
          have HCT := Lib.hid fun U (hU : Below wB.heap.size wB U) => HT.out.cut d (HT.out.later HLB.out.tb hU) HDK.out
          rw [HLB.out.nl] at HRR
          obtain ⟨gv, hgv⟩ : ∃ x, (getN L d).getD 0 = x := ⟨_, rfl⟩
          obtain ⟨gb, hgb⟩ : ∃ x, (getN L d).isSome = x := ⟨_, rfl⟩
          rw [hgv, hgb] at HRR
          rw [hgb, hL2] at HCT
          unfold tabV at HRR HTL
          have HRF := Lib.hid (Below.refl wB.heap.size wB)
          obtain ⟨DM, hDM⟩ : ∃ x, bcs d = x := ⟨_, rfl⟩
          rw [hDM] at HRR HDL HCT
          have HDM := Lib.hid hDM
          have hgg : (gb != gb) = false := by cases gb <;> rfl
          clear hDM hgv hgb hL2
          go_upto_region 15 with (first
            | (refine wpList_ld rfl 30 _ rfl _ rfl _ (HDL.out _ HB4.out) ?_)
            | (refine wpList_ld rfl 30 _ rfl _ rfl _ (HDL.out _ HRF.out) ?_)
            | (refine wpList_ld rfl 27 _ rfl _ rfl _ (HTL.out _ HRF.out) ?_)
            | (go_at_call 10; refine (HRR.out _ HRF.out).mono ?_; rintro e w4 ⟨rfl, hb4⟩; have HB4 := Lib.hid hb4; clear hb4)
            | (go_at_call 11; refine (HCT.out _ HB4.out).mono ?_; rintro e w5 ⟨S5, rfl, ht5, hc5, hs5⟩; have HT5 := Lib.hid ht5; have HC5 := Lib.hid hc5; have HS5 := Lib.hid hs5; clear ht5 hc5 hs5))
          have HL4 := Lib.hid (HLB.out.later HT.out HB4.out)
          have HM5 := Lib.hid (HL4.out.mid HC5.out)
          have HY5 : Hid (Yw w5 bD 30 d) := Lib.hid ((HC5.out.block bD (Nat.lt_of_lt_of_le HBD.out.1 HB4.out.size) HBD.out.2).trans (HYB.out.later HB4.out))
          have HDL5 := Lib.hid (dig_load HY5.out HDK.out.1)
          have HTL5 := Lib.hid HM5.out.bt.load
          have HRC := Lib.hid (rcut18_any p m c s N d w5 HM5.out.gw.gs HLB.out.dk HDK.out HML0.out)
          rw [HDM.out] at HDL5 HRC
          unfold tabV at HTL5 HRC
          go_upto_region 16 with (first
            | (refine wpList_ld rfl 30 _ rfl _ rfl _ HDL5.out ?_)
            | (refine wpList_ld rfl 27 _ rfl _ rfl _ HTL5.out ?_)
            | (go_at_call 12; refine HRC.out.mono ?_; rintro e w6 ⟨q, m2, c2, N2, rfl, hn2, hg2, hk2, hb2⟩; rw [HLB.out.nl, HL2.out] at hn2; have HN2 := Lib.hid hn2; have HG2 : Hid (Gw encPr w6 w5.heap.size (.slice q m2 c2) N2) := Lib.hid (hg2.mono (Nat.le_add_right _ 2)); have HK2 := Lib.hid hk2; have HB2 := Lib.hid hb2; have HM6 := Lib.hid (HM5.out.later hb2); have HY6 := Lib.hid (HY5.out.later hb2); obtain ⟨y0, y1, yf0, yf1⟩ := HM6.out.bt.cells; clear hn2 hg2 hk2 hb2))
          have HLE := Lib.hid (HL4.out.next HT.out HT5.out HC5.out HS5.out HB2.out HG2.out HN2.out (fun x hx => HLB.out.dk x (HK2.out x hx)) (HL2.out ▸ cutN_uniq HLB.out.un d))
          have HYE : Hid (Yw ((w6.setCell ⟨bR, 0, none⟩ (.slice q m2 c2)).setCell ⟨bR, 1, none⟩ (.int .i64 s)) bD 30 d) := Lib.hid (by
            unfold Yw
            rw [heap_setCell_other _ ⟨bR, 1, none⟩ bD _ (fun e => HBR.out e.symm), heap_setCell_other _ ⟨bR, 0, none⟩ bD _ (fun e => HBR.out e.symm)]
            exact HY6.out)
          have HML : Hid (m2 ≤ 1048576) := Lib.hid (by have h1 := HLE.out.len; have h2 := HNB.out.1; have h3 := HNN.out; omega)
          generalize (w6.setCell ⟨bR, 0, none⟩ (.slice q m2 c2)).setCell ⟨bR, 1, none⟩ (.int .i64 s) = w7 at *
          clear HL HLB HT5 HC5 HS5 HM5 HY5 HL4 HN2 HG2 HK2 HB2 HM6 HY6 HDL5 HTL5 HRC HRR HDL HTL HCT HB4 HRF y0 y1 yf0 yf1 ck hq0 hq1 hgg
          have HRG := Lib.hid fun U (hU : Below w7.heap.size w7 U) => HT.out.get d (HT.out.later HLE.out.tb hU) HDK.out
          have HRR := Lib.hid fun U (hU : Below w7.heap.size w7 U) => rget18_any q m2 c2 s N2 d U (HLE.out.gw.gs.later hU) HLE.out.dk HDK.out HML.out
          have HDL := Lib.hid fun U (hU : Below w7.heap.size w7 U) => dig_load (HYE.out.later hU) HDK.out.1
          have HTL := Lib.hid fun U (hU : Below w7.heap.size w7 U) => (HLE.out.bt.later hU).load
          have HLN := Lib.hid fun U (hU : Below w7.heap.size w7 U) => HT.out.len (HT.out.later HLE.out.tb hU)
          have HSL := Lib.hid fun U (hU : Below w7.heap.size w7 U) => HT.out.slots (HT.out.later HLE.out.tb hU)
          have HCE := Lib.hid fun U (hU : Below w7.heap.size w7 U) => (HLE.out.bt.later hU).cells
          rw [HLE.out.len] at HLN
          rw [HLE.out.nl] at HRR
          obtain ⟨gv2, hgv2⟩ : ∃ x, (getN L2 d).getD 0 = x := ⟨_, rfl⟩
          obtain ⟨gb2, hgb2⟩ : ∃ x, (getN L2 d).isSome = x := ⟨_, rfl⟩
          rw [hgv2, hgb2] at HRG HRR
          unfold tabV at HRR HTL
          have HRF := Lib.hid (Below.refl w7.heap.size w7)
          obtain ⟨DM2, hDM2⟩ : ∃ x, bcs d = x := ⟨_, rfl⟩
          rw [hDM2] at HRG HRR HDL
          clear hDM2 hgv2 hgb2
          go_wp2_with (first
            | (refine wpList_ld rfl 30 _ rfl _ rfl _ (HDL.out _ HB8.out) ?_)
            | (refine wpList_ld rfl 30 _ rfl _ rfl _ (HDL.out _ HRF.out) ?_)
            | (refine wpList_ld rfl 27 _ rfl _ rfl _ (HTL.out _ HB8.out) ?_)
            | (go_at_call 13; refine (HRG.out _ HRF.out).mono ?_; rintro e w8 ⟨rfl, hb8⟩; have HB8 := Lib.hid hb8; clear hb8)
            | (go_at_call 10; refine (HRR.out _ HB8.out).mono ?_; rintro e w9 ⟨rfl, hb9⟩; have HB9 := Lib.hid (below_step HB8.out hb9); clear hb9))
          have CL := Lib.hid fun (U : Fut w9.heap.size w9) => (Calls.fut (Nat.le_refl _) (HLN.out U.W (below_step HB9.out U.le)) : Calls Try.prog 14 #[v] U.W fun e w' => e = .returned (.int .i64 (m2 : Int)) ∧ ∃ V : Fut w9.heap.size w9, w' = V.W)
          have CS := Lib.hid fun (U : Fut w9.heap.size w9) => (Calls.fut (Nat.le_refl _) (HSL.out U.W (below_step HB9.out U.le)) : Calls Try.prog 15 #[v] U.W fun e w' => e = .returned (.int .i64 s) ∧ ∃ V : Fut w9.heap.size w9, w' = V.W)
          have hq0 := fun (U : Fut w9.heap.size w9) => (HCE.out U.W (below_step HB9.out U.le)).1
          have hq1 := fun (U : Fut w9.heap.size w9) => (HCE.out U.W (below_step HB9.out U.le)).2.1
          refine wp_region_quiet_fut w9.heap.size (by kernel_rfl) (by kernel_rfl) ?_
          repeat (first
            | (quiet_step (first
              | (go_at_call 14; exact CL.out _)
              | (go_at_call 15; exact CS.out _))))
          refine wpQuiet_nil ?_
          intro wz hw'
          obtain ⟨U4, hU4⟩ := hw'
          have hbz : Below w9.heap.size w9 wz := by rw [hU4]; exact U4.le
          have HBZ := Lib.hid (below_step HB9.out hbz)
          clear hU4 U4 hbz hq0 hq1 CL CS
          go_wp2
          exact ⟨⟨k + 1, _, _, _, _, _, _, _, by omega, by go_num, Lib.hid (HLE.out.later HT.out HBZ.out), HNB⟩, by simp [intS] <;> omega⟩
        · have hq1 : ((kd : Int) == 1) = false := by rw [beq_eq_false_iff_ne]; exact h1
          clear h0 h1
          go_upto_region 16 with fail
          have HLE := HLB
          have HYE := HYB
          have HML := HML0
          have HNB : Hid (L.length ≤ k + 1 ∧ 0 ≤ s ∧ s ≤ 8 + 4 * ((k + 1 : Nat) : Int)) := Lib.hid (by have h1 := HNK.out; omega)
          clear HL HLB HYB ck hq0 hq1
          have HRG := Lib.hid fun U (hU : Below wB.heap.size wB U) => HT.out.get d (HT.out.later HLE.out.tb hU) HDK.out
          have HRR := Lib.hid fun U (hU : Below wB.heap.size wB U) => rget18_any p m c s N d U (HLE.out.gw.gs.later hU) HLE.out.dk HDK.out HML.out
          have HDL := Lib.hid fun U (hU : Below wB.heap.size wB U) => dig_load (HYE.out.later hU) HDK.out.1
          have HTL := Lib.hid fun U (hU : Below wB.heap.size wB U) => (HLE.out.bt.later hU).load
          have HLN := Lib.hid fun U (hU : Below wB.heap.size wB U) => HT.out.len (HT.out.later HLE.out.tb hU)
          have HSL := Lib.hid fun U (hU : Below wB.heap.size wB U) => HT.out.slots (HT.out.later HLE.out.tb hU)
          have HCE := Lib.hid fun U (hU : Below wB.heap.size wB U) => (HLE.out.bt.later hU).cells
          rw [HLE.out.len] at HLN
          rw [HLE.out.nl] at HRR
          obtain ⟨gv, hgv⟩ : ∃ x, (getN L d).getD 0 = x := ⟨_, rfl⟩
          obtain ⟨gb, hgb⟩ : ∃ x, (getN L d).isSome = x := ⟨_, rfl⟩
          rw [hgv, hgb] at HRG HRR
          unfold tabV at HRR HTL
          have HRF := Lib.hid (Below.refl wB.heap.size wB)
          obtain ⟨DM, hDM⟩ : ∃ x, bcs d = x := ⟨_, rfl⟩
          rw [hDM] at HRG HRR HDL
          clear hDM hgv hgb
          go_wp2_with (first
            | (refine wpList_ld rfl 30 _ rfl _ rfl _ (HDL.out _ HB8.out) ?_)
            | (refine wpList_ld rfl 30 _ rfl _ rfl _ (HDL.out _ HRF.out) ?_)
            | (refine wpList_ld rfl 27 _ rfl _ rfl _ (HTL.out _ HB8.out) ?_)
            | (go_at_call 13; refine (HRG.out _ HRF.out).mono ?_; rintro e w8 ⟨rfl, hb8⟩; have HB8 := Lib.hid hb8; clear hb8)
            | (go_at_call 10; refine (HRR.out _ HB8.out).mono ?_; rintro e w9 ⟨rfl, hb9⟩; have HB9 := Lib.hid (below_step HB8.out hb9); clear hb9))
          have CL := Lib.hid fun (U : Fut w9.heap.size w9) => (Calls.fut (Nat.le_refl _) (HLN.out U.W (below_step HB9.out U.le)) : Calls Try.prog 14 #[v] U.W fun e w' => e = .returned (.int .i64 (m : Int)) ∧ ∃ V : Fut w9.heap.size w9, w' = V.W)
          have CS := Lib.hid fun (U : Fut w9.heap.size w9) => (Calls.fut (Nat.le_refl _) (HSL.out U.W (below_step HB9.out U.le)) : Calls Try.prog 15 #[v] U.W fun e w' => e = .returned (.int .i64 s) ∧ ∃ V : Fut w9.heap.size w9, w' = V.W)
          have hq0 := fun (U : Fut w9.heap.size w9) => (HCE.out U.W (below_step HB9.out U.le)).1
          have hq1 := fun (U : Fut w9.heap.size w9) => (HCE.out U.W (below_step HB9.out U.le)).2.1
          refine wp_region_quiet_fut w9.heap.size (by kernel_rfl) (by kernel_rfl) ?_
          repeat (first
            | (quiet_step (first
              | (go_at_call 14; exact CL.out _)
              | (go_at_call 15; exact CS.out _))))
          refine wpQuiet_nil ?_
          intro wz hw'
          obtain ⟨U4, hU4⟩ := hw'
          have hbz : Below w9.heap.size w9 wz := by rw [hU4]; exact U4.le
          have HBZ := Lib.hid (below_step HB9.out hbz)
          clear hU4 U4 hbz hq0 hq1 CL CS
          go_wp2
          exact ⟨⟨k + 1, _, _, _, _, _, _, _, by omega, by go_num, Lib.hid (HLE.out.later HT.out HBZ.out), HNB⟩, by simp [intS] <;> omega⟩
    · obtain rfl : k = n := by omega
      have HLD := HL
      have hmb := HL.out.len
      have HMB : Hid (m ≤ 1048576) := Lib.hid (by have h1 := HL.out.len; have h2 := HNK.out.1; have h3 := HNN.out; omega)
      clear HL
      obtain ⟨q0, q1, qf0, qf1⟩ := HLD.out.bt.cells
      clear hmb
      go_wp2
      clear q0 q1 qf0 qf1
      go_loopw [13] (fun jv wr => ∃ j : Nat, j ≤ m ∧ jv = .int .i64 (j : Int) ∧ Hid (LoS Tb w wr v bR S L s p m c N)) (fun jv _ => m - (intS jv).toNat)
      case atStart => exact ⟨0, by omega, rfl, HLD⟩
      case round =>
        obtain ⟨j, hjm, rfl, HJ⟩ := hrel
        obtain ⟨q0, q1, qf0, qf1⟩ := HJ.out.bt.cells
        by_cases hjl : j < m
        · obtain ⟨b2, off2, y, rfl, hy1, hy2, hy3, hr⟩ := HJ.out.gw.gs.pr j hjl
          have HYM := Lib.hid (by rw [← HJ.out.nl]; exact List.mem_map_of_mem hy3 : y.1 ∈ L)
          have HYD := Lib.hid (HJ.out.dk y hy3)
          have HLY := Lib.hid (pr_dig hr)
          have hge := HT.out.get y.1.dg HJ.out.tb HYD.out
          rw [getN_mem HJ.out.un HYM.out] at hge
          have HGE := Lib.hid hge
          have HFT := Lib.hid fun W (hW : Below wr.heap.size wr W) => And.intro (HJ.out.bt.later hW).cells.1 (pr_cells (rngS_later hr hW)).2
          have hji : (j : Int) < (m : Int) := by omega
          have hj0 : (0 : Int) ≤ (j : Int) := by omega
          have hmb := HMB.out
          obtain ⟨yv, hyv⟩ : ∃ z, y.1.v = z := ⟨_, rfl⟩
          obtain ⟨yd, hyd⟩ : ∃ z, bcs y.1.dg = z := ⟨_, rfl⟩
          rw [hyv] at HFT
          rw [hyd] at HLY HGE
          rw [hyv] at HGE
          clear hr hy1 hy2 hy3 hge hyv hyd
          go_wp2_with (first
            | (refine wpList_ld rfl 30 _ rfl _ rfl _ HLY.out ?_)
            | (go_at_call 13; refine HGE.out.mono ?_; rintro e w5 ⟨rfl, hb5⟩; obtain ⟨x0, x1⟩ := HFT.out _ hb5; have HJ5 := Lib.hid (HJ.out.later HT.out hb5); clear hb5))
          exact ⟨⟨j + 1, by omega, by go_num, HJ5⟩, by simp [intS] <;> omega⟩
        · obtain rfl : j = m := by omega
          clear HLD
          have hji : ¬ (j : Int) < (j : Int) := by omega
          go_upto_region 26 with fail
          clear q0 q1 qf0 qf1 hji
          have HLL : Hid (L.length ≤ 1048576) := Lib.hid (by have h2 := HNK.out.1; have h3 := HNN.out; omega)
          have HL0 : Hid (∀ W : World, Bt W bR (.slice p j c) s → (Instr.loadAt 27 (.pointer (some ⟨bR, 0, none⟩))).run Try.prog W = .ok (tabV p j c s) W) := Lib.hid fun W h => h.load
          have HJD := Lib.hid (HJ.out.later HT.out (Below.refl _ _).drew)
          refine wp_region_x (fun W : World => Bt W bR (.slice p j c) s) 8 (by kernel_rfl) ?_
          have hHeld : (fun W : World => Bt W bR (.slice p j c) s) _ := HJD.out.bt
          refine takex 0 (v := ?vv18) rfl (by kernel_rfl) (by kernel_rfl) (by kernel_rfl) (by kernel_rfl) (by kernel_rfl) (fun _ _ _ h => h) (Or.inl ⟨by rfl, ?hy18⟩) hHeld ?rest18
          case hy18 => intro w hSw; (try dsimp only at hSw); go_simp; (try with_reducible rfl)
          (try simp only [Act.put, List.setIfInBounds_toArray, List.set_cons_zero, List.set_cons_succ])
          refine takex 2 rfl (by kernel_rfl) (by kernel_rfl) (by kernel_rfl) (by kernel_rfl) (by kernel_rfl) (fun _ _ _ h => h) (yieldsIf_ld (by rfl) 27 (.tmp 4) rfl (.pointer (some ⟨bR, 0, none⟩)) rfl (tabV p j c s) (HL0.out)) hHeld ?_
          (try simp only [Act.put, List.setIfInBounds_toArray, List.set_cons_zero, List.set_cons_succ])
          refine readyx 1 rfl (by kernel_rfl) (fun K hK => ?_)
          go_simp
          refine (HROW.out HJD.out.tb HLL.out).mono ?_
          rintro e w4 ⟨u4, rfl, ho4, hb4⟩
          obtain ⟨p4, c4, hv4, _⟩ := ho4.open
          obtain ⟨l4, hl4⟩ : ∃ x, (drow (keysN L)).length = x := ⟨_, rfl⟩
          rw [hl4] at hv4
          subst hv4
          have HO4 := Lib.hid ho4.ds
          have HJ4 := Lib.hid (HJD.out.later HT.out hb4)
          have HL4 : Hid (l4 ≤ 1048576) := Lib.hid (by rw [← hl4]; have h1 := drow_length (keysN L); unfold keysN at h1 ⊢; rw [List.length_map] at h1; exact Nat.le_trans h1 HLL.out)
          clear ho4 hb4
          first
            | refine hK.out _ _ ?hS20 ?rest20
            | (go_wp2_with fail; refine hK.out _ _ ?hS20 ?rest20)
          case hS20 => exact HJ4.out.bt
          clear hK K hHeld
          have hHeld : (fun W : World => Bt W bR (.slice p j c) s) _ := HJ4.out.bt
          (try simp only [Act.put, List.setIfInBounds_toArray, List.set_cons_zero, List.set_cons_succ])
          refine readyx 3 rfl (by kernel_rfl) (fun K hK => ?_)
          go_simp
          refine (rrow18_any p j c s N _ HJ4.out.gw.gs HJ4.out.dk HMB.out).mono ?_
          rintro e w5 ⟨u5, rfl, ho5, hb5⟩
          rw [HJ4.out.nl] at ho5
          obtain ⟨p5, c5, hv5, _⟩ := ho5.open
          rw [hl4] at hv5
          subst hv5
          have HO5 := Lib.hid ho5.ds
          have HO45 := Lib.hid (HO4.out.later hb5)
          have HJ5 := Lib.hid (HJ4.out.later HT.out hb5)
          clear ho5 hb5
          first
            | refine hK.out _ _ ?hS21 ?rest21
            | (go_wp2_with fail; refine hK.out _ _ ?hS21 ?rest21)
          case hS21 => exact HJ5.out.bt
          clear hK K hHeld
          have hHeld : (fun W : World => Bt W bR (.slice p j c) s) _ := HJ5.out.bt
          (try simp only [Act.put, List.setIfInBounds_toArray, List.set_cons_zero, List.set_cons_succ])
          refine readyx 4 rfl (by kernel_rfl) (fun K hK => ?_)
          go_simp
          refine (rsame_any p4 p5 l4 l4 c4 c5 _ _ _ HO45.out HO5.out (by have := HL4.out; unfold maxLen; omega) (by have := HL4.out; unfold maxLen; omega)).mono ?_
          rintro e w6 ⟨rfl, hb6⟩
          rw [decide_eq_true rfl]
          have HJ6 := Lib.hid (HJ5.out.later HT.out hb6)
          clear hb6
          first
            | refine hK.out _ _ ?hS22 ?rest22
            | (go_wp2_with fail; refine hK.out _ _ ?hS22 ?rest22)
          case hS22 => exact HJ6.out.bt
          clear hK K hHeld
          have hHeld : (fun W : World => Bt W bR (.slice p j c) s) _ := HJ6.out.bt
          (try simp only [Act.put, List.setIfInBounds_toArray, List.set_cons_zero, List.set_cons_succ])
          refine takex 5 (v := ?vv23) rfl (by kernel_rfl) (by kernel_rfl) (by kernel_rfl) (by kernel_rfl) (by kernel_rfl) (fun _ _ _ h => h) (Or.inl ⟨by rfl, ?hy23⟩) hHeld ?rest23
          case hy23 => intro w hSw; (try dsimp only at hSw); go_simp; (try with_reducible rfl)
          (try simp only [Act.put, List.setIfInBounds_toArray, List.set_cons_zero, List.set_cons_succ])
          refine readyx 6 rfl (by kernel_rfl) (fun K hK => ?_)
          go_simp
          refine (HLV.out _).mono ?_
          rintro e w7 ⟨rfl, hb7⟩
          have HJ7 := Lib.hid (HJ6.out.later HT.out hb7)
          have HB7 := Lib.hid (below_step HJ6.out.le hb7)
          clear hb7
          first
            | refine hK.out _ _ ?hS24 ?rest24
            | (go_wp2_with fail; refine hK.out _ _ ?hS24 ?rest24)
          case hS24 => exact HJ7.out.bt
          clear hK K hHeld
          have hHeld : (fun W : World => Bt W bR (.slice p j c) s) _ := HJ7.out.bt
          (try simp only [Act.put, List.setIfInBounds_toArray, List.set_cons_zero, List.set_cons_succ])
          refine takex 7 (v := ?vv25) rfl (by kernel_rfl) (by kernel_rfl) (by kernel_rfl) (by kernel_rfl) (by kernel_rfl) (fun _ _ _ h => h) (Or.inl ⟨by rfl, ?hy25⟩) hHeld ?rest25
          case hy25 => intro w hSw; (try dsimp only at hSw); go_simp; (try with_reducible rfl)
          (try simp only [Act.put, List.setIfInBounds_toArray, List.set_cons_zero, List.set_cons_succ])
          refine lastx 8 rfl (by kernel_rfl) (by kernel_rfl) (fun K hK => ?_)
          go_simp
          first
            | refine hK.out _ _ ?_
            | (go_wp2_with fail; refine hK.out _ _ ?_)
          clear hK K hHeld
          go_wp2
          go_ret
          exact ⟨rfl, HB7.out⟩
end Go.Proofs.Ytfdmpbhgejahaaa
