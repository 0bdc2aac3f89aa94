/- The walk of the reference's blocks. -/
import Derived.Test.YtlggbicjgddnaaaDoorShaR2
import Derived.Test.YtlggbicjgddnaaaDoorShaC0
import Derived.Test.YtlggbicjgddnaaaDoorNum2
namespace Go.Proofs.YtlggbicjgddnaaaDoor
set_option linter.unusedVariables false
open Go.RowKit Go.Lib

theorem idx_back2 (k n : Nat) (N : Int) (hN : N = (n : Int)) (h : n ≤ k) (h0 : 0 < n) (h2 : k < 4294967296) : ∃ j : Nat, j = k - n ∧ (j : Int) < (k : Int) ∧ Hid (IntKind.i64.wrap ((k : Int) - N) = (j : Int)) :=
  ⟨k - n, rfl, by omega, Lib.hid (by rw [IntKind.wrap_i64]; omega)⟩
theorem rright_q (x n : Nat) (w : World) (hx : x < 4294967296) (h0 : 0 < n) (h1 : n < 32) : Calls Tryd.prog 42 #[.int .u32 (x : Int), .int .u64 (n : Int)] w fun e w' => e = .returned (.int .u32 ((rr x n : Nat) : Int)) ∧ w' = w := (rright_any x n w hx h0 h1).mono fun _ _ ⟨h1, h2⟩ => ⟨h1, h2.symm⟩
theorem ss0_nums (x : Nat) (hx : x < 4294967296) : bits BinOp.xor IntKind.u32 (bits BinOp.xor IntKind.u32 ((rr x 7 : Nat) : Int) ((rr x 18 : Nat) : Int)) ((x : Int) / 8) = ((ss0 x : Nat) : Int) := by
  have e : (x : Int) / 8 = ((x / 8 : Nat) : Int) := by omega
  rw [e, u32_xor_nat _ _ (rr_lt _ hx) (rr_lt _ hx), u32_xor_nat _ _ (xor32 (rr_lt _ hx) (rr_lt _ hx)) (by omega)]
  rfl
theorem ss1_nums (x : Nat) (hx : x < 4294967296) : bits BinOp.xor IntKind.u32 (bits BinOp.xor IntKind.u32 ((rr x 17 : Nat) : Int) ((rr x 19 : Nat) : Int)) ((x : Int) / 1024) = ((ss1 x : Nat) : Int) := by
  have e : (x : Int) / 1024 = ((x / 1024 : Nat) : Int) := by omega
  rw [e, u32_xor_nat _ _ (rr_lt _ hx) (rr_lt _ hx), u32_xor_nat _ _ (xor32 (rr_lt _ hx) (rr_lt _ hx)) (by omega)]
  rfl
theorem sS0_nums (x : Nat) (hx : x < 4294967296) : bits BinOp.xor IntKind.u32 (bits BinOp.xor IntKind.u32 ((rr x 2 : Nat) : Int) ((rr x 13 : Nat) : Int)) ((rr x 22 : Nat) : Int) = ((sS0 x : Nat) : Int) := by
  rw [u32_xor_nat _ _ (rr_lt _ hx) (rr_lt _ hx), u32_xor_nat _ _ (xor32 (rr_lt _ hx) (rr_lt _ hx)) (rr_lt _ hx)]
  rfl
theorem sS1_nums (x : Nat) (hx : x < 4294967296) : bits BinOp.xor IntKind.u32 (bits BinOp.xor IntKind.u32 ((rr x 6 : Nat) : Int) ((rr x 11 : Nat) : Int)) ((rr x 25 : Nat) : Int) = ((sS1 x : Nat) : Int) := by
  rw [u32_xor_nat _ _ (rr_lt _ hx) (rr_lt _ hx), u32_xor_nat _ _ (xor32 (rr_lt _ hx) (rr_lt _ hx)) (rr_lt _ hx)]
  rfl

theorem sch1_nums' (e f g : Nat) (be : e < 4294967296) (bf : f < 4294967296) (bg : g < 4294967296) : bits BinOp.xor IntKind.u32 (bits BinOp.and IntKind.u32 (e : Int) (f : Int)) (bits BinOp.and IntKind.u32 (bits BinOp.xor IntKind.u32 (if IntKind.u32.signed = true then -1 else IntKind.u32.max) (e : Int)) (g : Int)) = ((sch1 e f g : Nat) : Int) := by
  rw [if_neg (by decide)]
  exact sch1_nums e f g be bf bg
/-- eight words in a row -/
def Uv (w : World) (g a b c d e f x h : Nat) : Prop :=
  w.cell? ⟨g, 0, none⟩ = some (.int .u32 (a : Int)) ∧ w.cell? ⟨g, 1, none⟩ = some (.int .u32 (b : Int)) ∧ w.cell? ⟨g, 2, none⟩ = some (.int .u32 (c : Int)) ∧ w.cell? ⟨g, 3, none⟩ = some (.int .u32 (d : Int)) ∧
  w.cell? ⟨g, 4, none⟩ = some (.int .u32 (e : Int)) ∧ w.cell? ⟨g, 5, none⟩ = some (.int .u32 (f : Int)) ∧ w.cell? ⟨g, 6, none⟩ = some (.int .u32 (x : Int)) ∧ w.cell? ⟨g, 7, none⟩ = some (.int .u32 (h : Int))
theorem on8 {w : World} {B g cap a b c d e f x h : Nat} {t : TypeId} (hv : On .u32 w B t (.slice (some ⟨g, 0, none⟩) 8 cap) (St.mk a b c d e f x h).list) : Uv w g a b c d e f x h :=
  ⟨(hv.cell 0 (by omega)).1, (hv.cell 1 (by omega)).1, (hv.cell 2 (by omega)).1, (hv.cell 3 (by omega)).1, (hv.cell 4 (by omega)).1, (hv.cell 5 (by omega)).1, (hv.cell 6 (by omega)).1, (hv.cell 7 (by omega)).1⟩
theorem t1_nums' (a b c d e f g h k w : Nat) : (((h : Int) + ((sS1 e : Nat) : Int) + ((sch1 e f g : Nat) : Int) + (k : Int)) % 4294967296 + (w : Int)) % 4294967296 = ((st1 k w ⟨a, b, c, d, e, f, g, h⟩ : Nat) : Int) := by
  have e1 : st1 k w ⟨a, b, c, d, e, f, g, h⟩ = (h + sS1 e + sch1 e f g + k + w) % 4294967296 := rfl
  rw [e1]
  omega

theorem grown_setOther {w0 w : World} {b D o : Nat} (hg : w0.grownBy w (some b)) (hD : w0.heap.size ≤ D) (v : Value) : w0.grownBy (w.setCell ⟨D, o, none⟩ v) (some b) :=
  ⟨hg.os, hg.tape, hg.output, by have := hg.size; simpa [World.setCell] using this, fun k hk hne => (heap_setCell_other w ⟨D, o, none⟩ k v (by show k ≠ D; omega)).trans (hg.block k hk hne)⟩
theorem grown_setRowOther {w0 w : World} {b D : Nat} (hg : w0.grownBy w (some b)) (hD : w0.heap.size ≤ D) (cs : Array Value) : w0.grownBy (w.setRow D cs) (some b) := by
  have h := below_setRow (Below.refl D w) D cs (Nat.le_refl _)
  exact ⟨h.os.trans hg.os, h.tape.trans hg.tape, h.output.trans hg.output, Nat.le_trans hg.size h.size, fun k hk hne => (h.block k (Nat.lt_of_lt_of_le hk hD)).trans (hg.block k hk hne)⟩
theorem ob_lo {w : World} {B n c : Nat} {e : TypeId} {p : Option Addr} {zs : List Int} (h : Ob w B e (.slice p n c) zs) : ∀ a, p = some a → B ≤ a.block := by
  intro a ha
  rcases h.2.2 with ⟨h1, _⟩ | ⟨g, cap, cur, hv, hB, _⟩
  · simp only [Value.slice.injEq] at h1
    rw [h1.1] at ha
    cases ha
  · simp only [Value.slice.injEq] at hv
    rw [hv.1] at ha
    cases ha
    exact hB
theorem plus_comm' (x s : St) : x.plus s = s.plus x := by simp only [St.plus, Nat.add_comm]
set_option maxHeartbeats 8000000 in
set_option maxRecDepth 100000 in
theorem blocks_any (p : Option Addr) (len cap : Nat) (zs : List Int) (gk ck gh ch : Nat) (w : World) (h : Bs w p len zs) (hpc : p = none → cap = 0) (hlen : len ≤ 1048576)
    (hk : On .u32 w 0 66 (.slice (some ⟨gk, 0, none⟩) 64 ck) kS) (hh : On .u32 w 0 66 (.slice (some ⟨gh, 0, none⟩) 8 ch) hS.list) (hne : gk ≠ gh) (hpne : Away p len gh) :
    Calls Tryd.prog 26 #[.slice p len cap, .slice (some ⟨gk, 0, none⟩) 64 ck, .slice (some ⟨gh, 0, none⟩) 8 ch] w fun e w' => e = .returned (.agg (bcs (shaS zs))) ∧ w.grownBy w' (some gh) := by
  have H := Lib.hid h
  have HPC := Lib.hid hpc
  have HK := Lib.hid hk
  have HH := Lib.hid hh
  have HGK : Hid (gk < w.heap.size) := Lib.hid hk.block_own.2
  have HGH : Hid (gh < w.heap.size) := Lib.hid hh.block_own.2
  have HL : Hid (zs.length = len) := Lib.hid h.len
  have hb0 : Below w.heap.size w (w.alloc (.cells (bcs (List.replicate 32 0)) 24)) := (Below.refl _ _).alloc (Nat.le_refl _) _
  have HB0 := Lib.hid hb0
  clear h hpc hk hh hb0
  go_enter Tryd.func26, Tryd.ntmps26
  go_wp2_with fail
  refine (message_any p len cap zs _ (H.out.later HB0.out) HPC.out hlen).mono ?_
  rintro e w1 ⟨v, rfl, hom, hb1⟩
  have HB1 := Lib.hid (below_step HB0.out hb1)
  have HY1 : Hid (Yw w1 w.heap.size 24 (List.replicate 32 0)) := Lib.hid (Yw.later (w := w.alloc (.cells (bcs (List.replicate 32 0)) 24)) (heap_alloc_new _ _) hb1)
  obtain ⟨pm, cm, rfl, hlm, hcm, hbm, hblk⟩ := hom.openB
  have HM := Lib.hid hbm
  have hlo := ob_lo hom
  have hmsl : (msg zs).length = zs.length + 9 + padZ zs.length := by unfold msg padOf; simp only [List.length_append, List.length_cons, List.length_replicate, be64_length]; omega
  have hml : (msg zs).length = 64 * ((msg zs).length / 64) := by rw [hmsl]; unfold padZ; omega
  obtain ⟨nb, hnb⟩ : ∃ nb, (msg zs).length / 64 = nb := ⟨_, rfl⟩
  rw [hnb] at hml
  rw [hml] at HM hlm
  have hnb2 : 64 * nb ≤ 1280000 := by have h1 := HL.out; rw [← hml, hmsl]; unfold padZ; omega
  clear hmsl
  have hrw : (64 * nb : Nat) = 64 * nb := rfl
  obtain ⟨M, hM⟩ : ∃ M, 64 * nb = M := ⟨_, rfl⟩
  rw [hml, hM]
  rw [hM] at HM hlm hnb2
  have HAW : Hid (Away pm M gh) := Lib.hid (Or.inr (fun a ha => by have h1 := HGH.out; have h2 := hlo a ha; simp only [World.size_alloc] at h2; omega))
  have HMD := Lib.hid hM
  have HMS : Hid ((msg zs).length = M) := Lib.hid (hml.trans hM)
  clear hom hbm hblk hlo hb1 hlm hcm hnb hml hM hrw
  have HKV := Lib.hid (HK.out.later HB1.out)
  have HHV := Lib.hid (HH.out.later HB1.out)
  have HSZ : Hid (w.heap.size ≤ w1.heap.size) := Lib.hid HB1.out.size
  go_wp2
  go_loopw [8] (fun i wr => ∃ t a : Nat, i = .int .i64 (a : Int) ∧ Hid (a = 64 * t ∧ t ≤ nb) ∧ Hid (On .u32 wr 0 66 (.slice (some ⟨gh, 0, none⟩) 8 ch) (runS kS hS (msg zs) t).list) ∧ Hid (w1.grownBy wr (some gh))) (fun i _ => (M - (intOf i).toNat))
  case atStart => exact ⟨0, 0, rfl, Lib.hid ⟨rfl, Nat.zero_le _⟩, HHV, Lib.hid (grown_refl _ _)⟩
  case round =>
    clear HH HK HB0 H HHV
    obtain ⟨T, a, rfl, hT, hhv, hgr⟩ := hrel
    by_cases hlt : a < M
    · have hkv := Lib.hid (HKV.out.grown hgr.out (by simp [Value.ownBlock]; omega))
      have hm := Lib.hid (HM.out.grown hgr.out HAW.out)
      have HAM : Hid (a + 64 ≤ M) := Lib.hid (by have := hT.out; have := HMD.out; omega)
      obtain ⟨mb, mo, rfl, hmc⟩ : ∃ mb mo, pm = some ⟨mb, mo, none⟩ ∧ Hid (∀ j, j < M → wr.cell? ⟨mb, mo + j, none⟩ = some (.int .u8 ((msg zs).getD j 0))) := by
        rcases hm.out.2.2 with h0 | ⟨mb, mo, rfl, hc⟩
        · omega
        · exact ⟨mb, mo, rfl, Lib.hid hc⟩
      have HBY := Lib.hid hm.out.byte
      have HBR : Hid (Below wr.heap.size wr wr) := Lib.hid (Below.refl _ _)
      obtain ⟨wo, hwo⟩ : ∃ wo : World, wo = wr := ⟨_, rfl⟩
      subst hwo
      go_wp2
      go_loopw [9, 10] (fun v i wr => ∃ k : Nat, k ≤ 16 ∧ i = .int .i64 k ∧ Hid (On .u32 wr wo.heap.size 66 v (wds ((msg zs).drop a) k)) ∧ Hid (Below wo.heap.size wo wr)) (fun _ i _ => 16 - (intOf i).toNat)
      case atStart => exact ⟨0, by omega, rfl, Lib.hid (On.nil _ _ _), HBR⟩
      case round =>
        obtain ⟨k, hk, rfl, ho, hbl⟩ := hrel
        by_cases hlk : k < 16
        · as_aux_lemma =>
          obtain ⟨J, hJ⟩ : ∃ J, a + 4 * k = J := ⟨_, rfl⟩
          have hJM : J + 4 ≤ M := by have := HAM.out; omega
          obtain ⟨J1, hJ1⟩ : ∃ J1, J + 1 = J1 := ⟨_, rfl⟩
          obtain ⟨J2, hJ2⟩ : ∃ J2, J + 2 = J2 := ⟨_, rfl⟩
          obtain ⟨J3, hJ3⟩ : ∃ J3, J + 3 = J3 := ⟨_, rfl⟩
          have hb0 := HBY.out J
          have hb1 := HBY.out J1
          have hb2 := HBY.out J2
          have hb3 := HBY.out J3
          have HC : Hid (∀ W', Below wo.heap.size wo W' → W'.cell? ⟨mb, mo + J, none⟩ = some (.int .u8 ((msg zs).getD J 0)) ∧ W'.cell? ⟨mb, mo + J1, none⟩ = some (.int .u8 ((msg zs).getD J1 0)) ∧ W'.cell? ⟨mb, mo + J2, none⟩ = some (.int .u8 ((msg zs).getD J2 0)) ∧ W'.cell? ⟨mb, mo + J3, none⟩ = some (.int .u8 ((msg zs).getD J3 0))) := Lib.hid fun W' hW' =>
            ⟨cell_later' hW' (hmc.out J (by omega)), cell_later' hW' (hmc.out J1 (by omega)), cell_later' hW' (hmc.out J2 (by omega)), cell_later' hW' (hmc.out J3 (by omega))⟩
          have HW : Hid (wd ((msg zs).drop a) k = ((msg zs).getD J 0).toNat * 16777216 + ((msg zs).getD J1 0).toNat * 65536 + ((msg zs).getD J2 0).toNat * 256 + ((msg zs).getD J3 0).toNat) := Lib.hid (by
            rw [← hJ1, ← hJ2, ← hJ3, ← hJ]
            simp only [wd, List.getD_eq_getElem?_getD, List.getElem?_drop, Nat.add_assoc])
          generalize (msg zs).getD J 0 = y0 at *
          generalize (msg zs).getD J1 0 = y1 at *
          generalize (msg zs).getD J2 0 = y2 at *
          generalize (msg zs).getD J3 0 = y3 at *
          have hJi : (a : Int) + 4 * (k : Int) = (J : Int) := by omega
          have hj1 : IntKind.i64.wrap ((J : Int) + 1) = (J1 : Int) := by rw [IntKind.wrap_i64]; omega
          have hj2 : IntKind.i64.wrap ((J : Int) + 2) = (J2 : Int) := by rw [IntKind.wrap_i64]; omega
          have hj3 : IntKind.i64.wrap ((J : Int) + 3) = (J3 : Int) := by rw [IntKind.wrap_i64]; omega
          have hl0 : (J : Int) < (M : Int) := by omega
          have hl1 : (J1 : Int) < (M : Int) := by omega
          have hl2 : (J2 : Int) < (M : Int) := by omega
          have hl3 : (J3 : Int) < (M : Int) := by omega
          have HJ := Lib.hid hJ
          clear hJ hJ1 hJ2 hJ3
          have HSC := Lib.hid (wds_succ ((msg zs).drop a) k)
          obtain ⟨W, hW⟩ : ∃ W, wd ((msg zs).drop a) k = W := ⟨_, rfl⟩
          rw [hW] at HW HSC
          have hE : y0 * 16777216 + y1 * 65536 + y2 * 256 + y3 = (W : Int) := by rw [HW.out]; omega
          have hq0 : IntKind.u32.wrap y0 = y0 := by rw [IntKind.wrap_u32']; omega
          have hq1 : IntKind.u32.wrap y1 = y1 := by rw [IntKind.wrap_u32']; omega
          have hq2 : IntKind.u32.wrap y2 = y2 := by rw [IntKind.wrap_u32']; omega
          have hq3 : IntKind.u32.wrap y3 = y3 := by rw [IntKind.wrap_u32']; omega
          have hp0 : IntKind.u32.wrap (y0 * 16777216) = y0 * 16777216 := by rw [IntKind.wrap_u32']; omega
          have hp1 : IntKind.u32.wrap (y1 * 65536) = y1 * 65536 := by rw [IntKind.wrap_u32']; omega
          have hp2 : IntKind.u32.wrap (y2 * 256) = y2 * 256 := by rw [IntKind.wrap_u32']; omega
          have hr1 : IntKind.u32.wrap (y0 * 16777216 + y1 * 65536) = y0 * 16777216 + y1 * 65536 := by rw [IntKind.wrap_u32']; omega
          have hr2 : IntKind.u32.wrap (y0 * 16777216 + y1 * 65536 + y2 * 256) = y0 * 16777216 + y1 * 65536 + y2 * 256 := by rw [IntKind.wrap_u32']; omega
          have hWW : IntKind.u32.wrap (W : Int) = (W : Int) := by rw [← hE, IntKind.wrap_u32']; omega
          clear hW hb0 hb1 hb2 hb3
          have hs1 := hbl.out.size
          have hWB : Below wo.heap.size wo (wr.alloc (.cells #[.int .u32 (W : Int)] 66)).drew := (hbl.out.alloc hs1 _).drew
          have HWB := Lib.hid hWB
          have hs2 := hWB.size
          have HO : Hid (On .u32 (wr.alloc (.cells #[.int .u32 (W : Int)] 66)).drew wo.heap.size 66 u9 (wds ((msg zs).drop a) k)) := Lib.hid (ho.out.later ((Below.refl _ _).alloc (Nat.le_refl _) _).drew)
          have HN : Hid (Nw .u32 (wr.alloc (.cells #[.int .u32 (W : Int)] 66)).drew (some ⟨wr.heap.size, 0, none⟩) 1 [W]) := Lib.hid (nw_one wr W 66)
          have HP : Hid ((some (⟨wr.heap.size, 0, none⟩ : Addr)) = none → 1 = 0) := Lib.hid (by simp)
          have HLN : Hid ((wds ((msg zs).drop a) k).length + 1 ≤ maxLen) := Lib.hid (by rw [wds_length]; unfold maxLen; omega)
          have HLB : Hid (((wds ((msg zs).drop a) k).length + 1) * 4 ≤ 140737488355328) := Lib.hid (by rw [wds_length]; omega)
          have d := HC.out _ hWB
          have c := HC.out _ hbl.out
          clear hWB
          go_upto_region 10 with fail
          try rw [hJi]
          go_region_held3 (fun W' => W'.cell? ⟨mb, mo + J, none⟩ = some (.int .u8 y0) ∧ W'.cell? ⟨mb, mo + J1, none⟩ = some (.int .u8 y1) ∧ W'.cell? ⟨mb, mo + J2, none⟩ = some (.int .u8 y2) ∧ W'.cell? ⟨mb, mo + J3, none⟩ = some (.int .u8 y3)) (first | exact c | exact d | exact e4) (first
            | (refine step_append_nums rfl (.tmp 42) (.tmp 72) 48 66 rfl Tryd.underlying48 4 info32 wo.heap.size _ _ rfl HO.out (some ⟨wr.heap.size, 0, none⟩) 1 1 [W] rfl HN.out HP.out HLN.out HLB.out hs2 ?_; intro v' w' hob' hg'; have HO' := Lib.hid hob'; have HB' := Lib.hid (below_new_on HWB.out HO.out hg' hs2); have e4 := HC.out _ HB'.out; clear hob' hg'))
          go_wp2
          refine ⟨?_, by simp [intOf]; omega⟩
          have HO2 : Hid (On .u32 w' wo.heap.size 66 v' (wds ((msg zs).drop a) (k + 1))) := Lib.hid (by rw [HSC.out]; exact HO'.out)
          first
            | exact ⟨k + 1, by omega, by go_num, HO2, HB'⟩
            | ((repeat apply Exists.intro); refine ⟨?_, rfl⟩; exact ⟨k + 1, by omega, by go_num, HO2, HB'⟩)
        · obtain rfl : k = 16 := by omega
          obtain ⟨pB, cB, hvB, _, _, _, _, hgB⟩ := ho.out.open
          rw [wds_length] at hvB hgB
          obtain ⟨gB, rfl, _⟩ := hgB (by omega)
          subst hvB
          have HWL := Lib.hid (wds_lt (zs := (msg zs).drop a) (bytes_drop HBY.out a) 16)
          clear hlk hgB
          go_wp2
          go_loopw [9, 12] (fun v i wr => ∃ k g c : Nat, 16 ≤ k ∧ k ≤ 64 ∧ i = .int .i64 k ∧ v = .slice (some ⟨g, 0, none⟩) k c ∧ Hid (On .u32 wr wo.heap.size 66 (.slice (some ⟨g, 0, none⟩) k c) (sched (wds ((msg zs).drop a) 16) (k - 16))) ∧ Hid (Below wo.heap.size wo wr)) (fun _ i _ => 64 - (intOf i).toNat)
          case atStart => exact ⟨16, gB, cB, by omega, by omega, rfl, rfl, ho, hbl⟩
          case round =>
            clear ho hbl
            obtain ⟨k, g, c, hk0, hk, rfl, rfl, ho, hbl⟩ := hrel
            by_cases hlk : k < 64
            · as_aux_lemma =>
              obtain ⟨j2, e2, l2, w2⟩ := idx_back2 k 2 2 rfl (by omega) (by omega) (by omega)
              obtain ⟨j7, e7, l7, w7⟩ := idx_back2 k 7 7 rfl (by omega) (by omega) (by omega)
              obtain ⟨j15, e15, l15, w15⟩ := idx_back2 k 15 15 rfl (by omega) (by omega) (by omega)
              obtain ⟨j16, e16, l16, w16⟩ := idx_back2 k 16 16 rfl (by omega) (by omega) (by omega)
              have hl : (sched (wds ((msg zs).drop a) 16) (k - 16)).length = k := by rw [sched_length, wds_length]; omega
              have hsl := sched_lt HWL.out (k - 16)
              have HSC : Hid (sched (wds ((msg zs).drop a) 16) (k + 1 - 16) = sched (wds ((msg zs).drop a) 16) (k - 16) ++ [snx (sched (wds ((msg zs).drop a) 16) (k - 16))]) := Lib.hid (by rw [show k + 1 - 16 = (k - 16) + 1 by omega]; rfl)
              have HX : Hid (snx (sched (wds ((msg zs).drop a) 16) (k - 16)) = (ss1 ((sched (wds ((msg zs).drop a) 16) (k - 16)).getD j2 0) + (sched (wds ((msg zs).drop a) 16) (k - 16)).getD j7 0 + ss0 ((sched (wds ((msg zs).drop a) 16) (k - 16)).getD j15 0) + (sched (wds ((msg zs).drop a) 16) (k - 16)).getD j16 0) % 4294967296) := Lib.hid (by unfold snx; rw [hl, ← e2, ← e7, ← e15, ← e16])
              generalize sched (wds ((msg zs).drop a) 16) (k - 16) = l at *
              have b2 := hsl j2
              have b7 := hsl j7
              have b15 := hsl j15
              have b16 := hsl j16
              have HC : Hid (∀ W', Below wr.heap.size wr W' → W'.cell? ⟨g, j2, none⟩ = some (.int .u32 ((l.getD j2 0 : Nat) : Int)) ∧ W'.cell? ⟨g, j7, none⟩ = some (.int .u32 ((l.getD j7 0 : Nat) : Int)) ∧ W'.cell? ⟨g, j15, none⟩ = some (.int .u32 ((l.getD j15 0 : Nat) : Int)) ∧ W'.cell? ⟨g, j16, none⟩ = some (.int .u32 ((l.getD j16 0 : Nat) : Int))) := Lib.hid fun W' hW' =>
                ⟨cell_later' hW' (ho.out.cell j2 (by omega)).1, cell_later' hW' (ho.out.cell j7 (by omega)).1, cell_later' hW' (ho.out.cell j15 (by omega)).1, cell_later' hW' (ho.out.cell j16 (by omega)).1⟩
              generalize l.getD j2 0 = a2 at *
              generalize l.getD j7 0 = a7 at *
              generalize l.getD j15 0 = a15 at *
              generalize l.getD j16 0 = a16 at *
              have HL := Lib.hid hl
              have HJ7 := Lib.hid (show j7 < k by omega)
              have HJ16 := Lib.hid (show j16 < k by omega)
              clear hsl hl e2 e7 e15 e16
              have w2 := w2.out
              have w7 := w7.out
              have w15 := w15.out
              have w16 := w16.out
              obtain ⟨c2, c7, c15, c16⟩ := HC.out wr (Below.refl _ _)
              go_upto_region 14 with fail
              go_quiet ((go_at_call 42; refine Calls.quiet_of_same (rright_q a15 _ _ b15 ?_ ?_) <;> decide))
              have hq1 := Lib.hid (below_drewN (Below.refl wr.heap.size wr) nq)
              generalize wr.drewN nq = wd1 at *
              clear c2 c7 c15 c16 nq
              rw [ss0_nums a15 b15]
              obtain ⟨c2, c7, c15, c16⟩ := HC.out wd1 hq1.out
              go_upto_region 15 with fail
              go_quiet ((go_at_call 42; refine Calls.quiet_of_same (rright_q a2 _ _ b2 ?_ ?_) <;> decide))
              have hq2 := Lib.hid (below_step hq1.out (below_drewN (Below.refl wd1.heap.size wd1) nq))
              generalize wd1.drewN nq = wd2 at *
              clear c2 c7 c15 c16 nq hq1
              rw [ss1_nums a2 b2]
              have hs0 := ss0_lt b15
              have hs1 := ss1_lt b2
              obtain ⟨X, hX⟩ : ∃ X, snx l = X := ⟨_, rfl⟩
              rw [hX] at HX HSC
              have hXX : IntKind.u32.wrap (IntKind.u32.wrap (IntKind.u32.wrap ((a16 : Int) + ((ss0 a15 : Nat) : Int)) + (a7 : Int)) + ((ss1 a2 : Nat) : Int)) = (X : Int) := by rw [HX.out, IntKind.wrap_u32', IntKind.wrap_u32', IntKind.wrap_u32']; omega
              generalize ss0 a15 = s0 at *
              generalize ss1 a2 = s1 at *
              clear hX
              have hbl2 : Below wo.heap.size wo wd2 := hbl.out.trans (hq2.out.mono hbl.out.size)
              have hWB : Below wo.heap.size wo (wd2.alloc (.cells #[.int .u32 (X : Int)] 66)).drew := (hbl2.alloc hbl2.size _).drew
              have HWB := Lib.hid hWB
              have hsz := hWB.size
              have hWC : Below wr.heap.size wr (wd2.alloc (.cells #[.int .u32 (X : Int)] 66)).drew := (hq2.out.alloc hq2.out.size _).drew
              have HO : Hid (On .u32 (wd2.alloc (.cells #[.int .u32 (X : Int)] 66)).drew wo.heap.size 66 (.slice (some ⟨g, 0, none⟩) k c) l) := Lib.hid (ho.out.later hWC)
              have HN : Hid (Nw .u32 (wd2.alloc (.cells #[.int .u32 (X : Int)] 66)).drew (some ⟨wd2.heap.size, 0, none⟩) 1 [X]) := Lib.hid (nw_one wd2 X 66)
              have HP : Hid ((some (⟨wd2.heap.size, 0, none⟩ : Addr)) = none → 1 = 0) := Lib.hid (by simp)
              have HLN : Hid (l.length + 1 ≤ maxLen) := Lib.hid (by rw [HL.out]; unfold maxLen; omega)
              have HLB : Hid ((l.length + 1) * 4 ≤ 140737488355328) := Lib.hid (by rw [HL.out]; omega)
              have cc := HC.out _ hq2.out
              have d := HC.out _ hWC
              clear hWB hWC hbl2
              go_upto_region 16 with fail
              go_region_held3 (fun W' => W'.cell? ⟨g, j7, none⟩ = some (.int .u32 (a7 : Int)) ∧ W'.cell? ⟨g, j16, none⟩ = some (.int .u32 (a16 : Int))) (first | exact ⟨cc.2.1, cc.2.2.2⟩ | exact ⟨d.2.1, d.2.2.2⟩ | exact e4) (first
                | (refine step_append_keep rfl (.tmp 118) (.tmp 134) 48 66 rfl Tryd.underlying48 4 info32 wo.heap.size g k c l rfl HO.out wd2.heap.size 0 1 1 [X] rfl HN.out HLN.out HLB.out hsz ?_; intro v' w' hob' hg' hkp; have HO' := Lib.hid hob'; have HB' := Lib.hid (below_new_on HWB.out HO.out hg' hsz); have e4 : w'.cell? ⟨g, j7, none⟩ = some (.int .u32 (a7 : Int)) ∧ w'.cell? ⟨g, j16, none⟩ = some (.int .u32 (a16 : Int)) := ⟨(hkp j7 HJ7.out).trans d.2.1, (hkp j16 HJ16.out).trans d.2.2.2⟩; clear hob' hg' hkp))
              go_wp2
              obtain ⟨p5, c5, hv5, _, _, _, _, hg5⟩ := HO'.out.open
              have hL5 : (l ++ [X]).length = k + 1 := by rw [List.length_append, HL.out]; rfl
              rw [hL5] at hv5 hg5
              obtain ⟨g5, rfl, _⟩ := hg5 (by omega)
              subst hv5
              have HO2 : Hid (On .u32 w' wo.heap.size 66 (.slice (some ⟨g5, 0, none⟩) (k + 1) c5) (sched (wds ((msg zs).drop a) 16) (k + 1 - 16))) := Lib.hid (by rw [HSC.out]; exact HO'.out)
              refine ⟨?_, by simp [intOf]; omega⟩
              first
                | exact ⟨k + 1, g5, c5, by omega, by omega, by go_num, rfl, HO2, HB'⟩
                | ((repeat apply Exists.intro); refine ⟨?_, rfl⟩; exact ⟨k + 1, g5, c5, by omega, by omega, by go_num, rfl, HO2, HB'⟩)
            · obtain rfl : k = 64 := by omega
              have HVN : Hid (On .u32 wr wo.heap.size 66 (.slice none 0 0) []) := Lib.hid (On.nil _ _ _)
              have hhw := hhv.out.later hbl.out
              obtain ⟨ph, ch', hvh, hch1, hch2, hnh, _⟩ := hhw.open
              simp only [Value.slice.injEq] at hvh
              obtain ⟨rfl, h8, rfl⟩ := hvh
              clear h8
              have HNH : Hid (Nw .u32 wr (some ⟨gh, 0, none⟩) 8 (runS kS hS (msg zs) T).list) := Lib.hid hnh
              have HPH : Hid ((some (⟨gh, 0, none⟩ : Addr)) = none → ch = 0) := Lib.hid (by simp)
              have HLN : Hid (([] : List Nat).length + 8 ≤ maxLen) := Lib.hid (by unfold maxLen; simp)
              have HLB : Hid ((([] : List Nat).length + 8) * 4 ≤ 140737488355328) := Lib.hid (by simp)
              have HWL64 := Lib.hid (sched_lt HWL.out 48)
              have ho : Hid (On .u32 wr wo.heap.size 66 (.slice (some ⟨g, 0, none⟩) 64 c) (sched (wds ((msg zs).drop a) 16) 48)) := ho
              generalize hws : sched (wds ((msg zs).drop a) 16) 48 = ws at *
              have HWS := Lib.hid hws
              have hsz := hbl.out.size
              clear hws hhw hch1 hch2 hnh hlk hk0 hk
              go_wp2_with (refine wpList_append_nums rfl (.const (.slice none 0 0)) (.tmp 136) 48 66 rfl Tryd.underlying48 4 info32 wo.heap.size _ [] rfl HVN.out (some ⟨gh, 0, none⟩) 8 ch (runS kS hS (msg zs) T).list rfl HNH.out HPH.out HLN.out HLB.out hsz ?_; intro v2 w2 hob2 hg2; rw [List.nil_append] at hob2; have HO2 := Lib.hid hob2; have HB2 := Lib.hid (below_new_on hbl.out HVN.out hg2 hsz); have HG2 := Lib.hid (show wr.grownBy w2 none from hg2); clear hob2 hg2)
              try (go_wp2)
              obtain ⟨pV, cV, hvV, _, _, _, _, hgV⟩ := HO2.out.open
              rw [St.list_length] at hvV hgV
              obtain ⟨gV, rfl, _⟩ := hgV (by omega)
              subst hvV
              obtain ⟨s, hs⟩ : ∃ s, runS kS hS (msg zs) T = s := ⟨_, rfl⟩
              have HSOK : Hid s.ok := Lib.hid (by rw [← hs]; exact runS_ok hS_ok _ _)
              have HS := Lib.hid hs
              rw [hs] at HO2
              have HB22 := Lib.hid (Below.refl w2.heap.size w2)
              have how := Lib.hid (ho.out.later (below_none HG2.out))
              have HKW := Lib.hid ((hkv.out.later hbl.out).later (below_none HG2.out))
              have HSW := Lib.hid HB2.out.size
              clear hs hgV
              go_loopw [15, 16] (fun v i wr => ∃ k gv cv : Nat, k ≤ 64 ∧ i = .int .i64 k ∧ v = .slice (some ⟨gv, 0, none⟩) 8 cv ∧ Hid (On .u32 wr wo.heap.size 66 (.slice (some ⟨gv, 0, none⟩) 8 cv) (mixN kS ws s k).list) ∧ Hid (Below w2.heap.size w2 wr)) (fun _ i _ => 64 - (intOf i).toNat)
              case atStart => exact ⟨0, gV, cV, by omega, rfl, rfl, HO2, HB22⟩
              case round =>
                clear HO2 HB22 HNH HPH HLN HLB HVN
                obtain ⟨k, gv, cv, hk, rfl, rfl, hv, hbl⟩ := hrel
                by_cases hlk : k < 64
                · as_aux_lemma =>
                  obtain ⟨x, hx⟩ : ∃ x, mixN kS ws s k = x := ⟨_, rfl⟩
                  have hok : x.ok := by rw [← hx]; exact mixN_ok _ _ HSOK.out _
                  rw [hx] at hv
                  have HX : Hid (mixN kS ws s (k + 1) = rnd (kS.getD k 0) (ws.getD k 0) x) := Lib.hid (by rw [← hx]; rfl)
                  clear hx
                  obtain ⟨xa, xb, xc, xd, xe, xf, xg, xh⟩ := x
                  obtain ⟨ba, bb, bc, bd, be, bf, bg, bh⟩ := hok
                  simp only at ba bb bc bd be bf bg bh
                  have HCV : Hid (∀ W', Below wr.heap.size wr W' → Uv W' gv xa xb xc xd xe xf xg xh) := Lib.hid fun W' hW' => on8 (hv.out.later hW')
                  have HCK : Hid (∀ W', Below wr.heap.size wr W' → W'.cell? ⟨gk, k, none⟩ = some (.int .u32 ((kS.getD k 0 : Nat) : Int)) ∧ W'.cell? ⟨g, k, none⟩ = some (.int .u32 ((ws.getD k 0 : Nat) : Int))) := Lib.hid fun W' hW' =>
                    ⟨cell_later' (below_step hbl.out hW') (HKW.out.cell k hlk).1, cell_later' (below_step hbl.out hW') (how.out.cell k hlk).1⟩
                  have HT1 := Lib.hid (t1_nums' xa xb xc xd xe xf xg xh (kS.getD k 0) (ws.getD k 0))
                  have HR : Hid (rnd (kS.getD k 0) (ws.getD k 0) ⟨xa, xb, xc, xd, xe, xf, xg, xh⟩ = ⟨(st1 (kS.getD k 0) (ws.getD k 0) ⟨xa, xb, xc, xd, xe, xf, xg, xh⟩ + st2 ⟨xa, xb, xc, xd, xe, xf, xg, xh⟩) % 4294967296, xa, xb, xc, (xd + st1 (kS.getD k 0) (ws.getD k 0) ⟨xa, xb, xc, xd, xe, xf, xg, xh⟩) % 4294967296, xe, xf, xg⟩) := Lib.hid rfl
                  rw [HR.out] at HX
                  have H2 : Hid (st2 ⟨xa, xb, xc, xd, xe, xf, xg, xh⟩ = (sS0 xa + smaj xa xb xc) % 4294967296) := Lib.hid rfl
                  have hlk' : (k : Int) < 64 := by omega
                  have hb1 : st1 (kS.getD k 0) (ws.getD k 0) ⟨xa, xb, xc, xd, xe, xf, xg, xh⟩ < 4294967296 := m32 _
                  have hbb1 := sS1_lt be
                  have hbb2 := sch1_lt (f := xf) (g := xg) be
                  have hbb3 := sS0_lt ba
                  have hbb4 := smaj_lt (c := xc) ba bb
                  have hbk := kS_lt k
                  have hbw := HWL64.out k
                  generalize kS.getD k 0 = kk at *
                  generalize ws.getD k 0 = ww at *
                  generalize st1 kk ww ⟨xa, xb, xc, xd, xe, xf, xg, xh⟩ = y1 at *
                  generalize st2 ⟨xa, xb, xc, xd, xe, xf, xg, xh⟩ = y2 at *
                  obtain ⟨c0, c1, c2, c3, c4, c5, c6, c7⟩ := HCV.out wr (Below.refl _ _)
                  go_upto_region 21 with fail
                  go_quiet ((go_at_call 42; refine Calls.quiet_of_same (rright_q xe _ _ be ?_ ?_) <;> decide))
                  have hq := Lib.hid (below_drewN (Below.refl wr.heap.size wr) nq)
                  generalize wr.drewN nq = wd at *
                  clear c0 c1 c2 c3 c4 c5 c6 c7 nq
                  rw [sS1_nums xe be]
                  generalize sS1 xe = z1 at *
                  obtain ⟨c0, c1, c2, c3, c4, c5, c6, c7⟩ := HCV.out wd hq.out
                  go_upto_region 22 with fail
                  go_quiet (fail)
                  have hq2 := Lib.hid (below_step hq.out (below_drewN (Below.refl wd.heap.size wd) nq))
                  generalize wd.drewN nq = we at *
                  clear c0 c1 c2 c3 c4 c5 c6 c7 nq hq
                  rw [sch1_nums' xe xf xg be bf bg]
                  generalize sch1 xe xf xg = z2 at *
                  obtain ⟨c0, c1, c2, c3, c4, c5, c6, c7⟩ := HCV.out we hq2.out
                  obtain ⟨ck, cw⟩ := HCK.out we hq2.out
                  go_upto_region 23 with fail
                  go_quiet (fail)
                  have hq3 := Lib.hid (below_step hq2.out (below_drewN (Below.refl we.heap.size we) nq))
                  generalize we.drewN nq = wf at *
                  clear c0 c1 c2 c3 c4 c5 c6 c7 ck cw nq hq2
                  rw [HT1.out]
                  obtain ⟨c0, c1, c2, c3, c4, c5, c6, c7⟩ := HCV.out wf hq3.out
                  go_upto_region 24 with fail
                  go_quiet ((go_at_call 42; refine Calls.quiet_of_same (rright_q xa _ _ ba ?_ ?_) <;> decide))
                  have hq4 := Lib.hid (below_step hq3.out (below_drewN (Below.refl wf.heap.size wf) nq))
                  generalize wf.drewN nq = wg at *
                  clear c0 c1 c2 c3 c4 c5 c6 c7 nq hq3
                  rw [sS0_nums xa ba]
                  generalize sS0 xa = z3 at *
                  obtain ⟨c0, c1, c2, c3, c4, c5, c6, c7⟩ := HCV.out wg hq4.out
                  go_upto_region 25 with fail
                  go_quiet (fail)
                  have hq5 := Lib.hid (below_step hq4.out (below_drewN (Below.refl wg.heap.size wg) nq))
                  generalize wg.drewN nq = wh at *
                  clear c0 c1 c2 c3 c4 c5 c6 c7 nq hq4
                  rw [smaj_nums xa xb xc ba bb bc]
                  generalize smaj xa xb xc = z4 at *
                  obtain ⟨Y, hY⟩ : ∃ Y, (y1 + y2) % 4294967296 = Y := ⟨_, rfl⟩
                  rw [hY] at HX
                  have hYl : Y < 4294967296 := by omega
                  have hval : IntKind.u32.wrap ((y1 : Int) + (z3 : Int) + (z4 : Int)) = (Y : Int) := by have := H2.out; rw [IntKind.wrap_u32']; omega
                  have hval2 : IntKind.u32.wrap (IntKind.u32.wrap ((y1 : Int) + (z3 : Int)) + (z4 : Int)) = (Y : Int) := by have := H2.out; rw [IntKind.wrap_u32', IntKind.wrap_u32']; omega
                  have hYw : IntKind.u32.wrap (Y : Int) = (Y : Int) := by rw [IntKind.wrap_u32']; omega
                  clear hY
                  go_upto_region 27 with fail
                  have hval3 : ((y1 : Int) + (z3 : Int) + (z4 : Int)) % 4294967296 = (Y : Int) := by rw [← hval, IntKind.wrap_u32']
                  rw [hval3]
                  clear hval hval2 hval3
                  have hsx := hq5.out.size
                  have HNX : Hid (On .u32 (wh.alloc (.cells #[.int .u32 (Y : Int)] 66)) wr.heap.size 66 (.slice (some ⟨wh.heap.size, 0, none⟩) 1 1) [Y]) := Lib.hid (on_lit wh wr.heap.size 66 _ [Y] 1 hsx rfl (by unfold maxLen; omega) rfl)
                  have HBI : Hid (Below wr.heap.size wr (wh.alloc (.cells #[.int .u32 (Y : Int)] 66))) := Lib.hid (hq5.out.alloc hsx _)
                  generalize wh.alloc (.cells #[.int .u32 (Y : Int)] 66) = wi at *
                  generalize wh.heap.size = g0 at *
                  clear hsx hq5
                  have HSI := Lib.hid HBI.out.size
                  have hvi := hv.out.later HBI.out
                  obtain ⟨pz, cz, hvz, hz1, hz2, hnz, _⟩ := hvi.open
                  simp only [Value.slice.injEq] at hvz
                  obtain ⟨rfl, h8, rfl⟩ := hvz
                  clear h8
                  rw [St.list_length] at hz1 hnz
                  have HNZ : Hid (Nw .u32 wi (some ⟨gv, 0, none⟩) 7 ((St.mk xa xb xc xd xe xf xg xh).list.take 7)) := Lib.hid (hnz.take 7 (by omega))
                  have hsl := run_slice_to (P := Tryd.prog) wi 48 66 Tryd.underlying48 (fun _ => by kernel_rfl) gv 0 8 cv 7 (by omega)
                  rw [show ((7 : Nat) : Int) = 7 from rfl] at hsl
                  have HPZ : Hid ((some (⟨gv, 0, none⟩ : Addr)) = none → cv = 0) := Lib.hid (by simp)
                  have HLN : Hid (([Y] : List Nat).length + 7 ≤ maxLen) := Lib.hid (by unfold maxLen; simp)
                  have HLB : Hid ((([Y] : List Nat).length + 7) * 4 ≤ 140737488355328) := Lib.hid (by simp)
                  obtain ⟨Z, hZ⟩ : ∃ Z, (xd + y1) % 4294967296 = Z := ⟨_, rfl⟩
                  rw [hZ] at HX
                  have HZ : Hid (((xd : Int) + (y1 : Int)) % 4294967296 = (Z : Int)) := Lib.hid (by omega)
                  clear hZ hvi hz1 hz2 hnz
                  go_wp2_with (refine wpList_append_nums rfl (.tmp 232) (.tmp 234) 48 66 rfl Tryd.underlying48 4 info32 wr.heap.size _ [Y] rfl HNX.out (some ⟨gv, 0, none⟩) 7 cv _ rfl HNZ.out HPZ.out HLN.out HLB.out HSI.out ?_; intro v3 w3 hob3 hg3; have hob3 : On .u32 w3 wr.heap.size 66 v3 [Y, xa, xb, xc, xd, xe, xf, xg] := hob3; obtain ⟨gn, cn, rfl⟩ : ∃ gn cn, v3 = .slice (some ⟨gn, 0, none⟩) 8 cn := (by obtain ⟨p3, c3, hv3, _, _, _, _, hg4⟩ := hob3.open; obtain ⟨g3, rfl, _⟩ := hg4 (by simp); exact ⟨g3, c3, hv3⟩); have HO3 := Lib.hid hob3; have HB3 := Lib.hid (below_new_on HBI.out HNX.out hg3 HSI.out); have c4 : w3.cell? ⟨gn, 4, none⟩ = some (.int .u32 (xd : Int)) := (hob3.cell 4 (by omega)).1; have f4 := (hob3.cell 4 (by omega)).2; clear hob3 hg3)
                  rw [HZ.out]
                  have hgn := HO3.out.block_own
                  have hsw := hbl.out.size
                  have hsw2 := HSW.out
                  have HS : Hid (On .u32 (w3.setCell ⟨gn, 4, none⟩ (.int .u32 (Z : Int))) wo.heap.size 66 (.slice (some ⟨gn, 0, none⟩) 8 cn) (mixN kS ws s (k + 1)).list) := Lib.hid (by rw [HX.out]; exact (HO3.out.set 4 (by omega) Z).mono (by omega))
                  have HT : Hid (Below w2.heap.size w2 (w3.setCell ⟨gn, 4, none⟩ (.int .u32 (Z : Int)))) := Lib.hid (below_step hbl.out (HB3.out.setCell (p := ⟨gn, 4, none⟩) hgn.1 _))
                  clear hgn hsw hsw2
                  exact ⟨⟨k + 1, gn, cn, by omega, by go_num, rfl, HS, HT⟩, by simp [intOf]; omega⟩
                · obtain rfl : k = 64 := by omega
                  obtain ⟨y, hy⟩ : ∃ y, mixN kS ws s 64 = y := ⟨_, rfl⟩
                  rw [hy] at hv
                  have HY := Lib.hid hy
                  clear hy hlk hk
                  have hbw : Below wo.heap.size wo wr := below_step HB2.out hbl.out
                  have HG0 : Hid (wo.grownBy wr (some gh)) := Lib.hid (grown_below (grown_refl _ _) hbw)
                  have HH0 : Hid (On .u32 wr 0 66 (.slice (some ⟨gh, 0, none⟩) 8 ch) s.list) := Lib.hid (by rw [← HS.out]; exact hhv.out.later hbw)
                  have HGW : Hid (gh < wo.heap.size) := Lib.hid hhv.out.block_own.2
                  clear hbw
                  go_wp2_with fail
                  go_loopw [23] (fun i wr => ∃ k : Nat, k ≤ 8 ∧ i = .int .i64 k ∧ Hid (On .u32 wr 0 66 (.slice (some ⟨gh, 0, none⟩) 8 ch) ((s.plus y).list.take k ++ s.list.drop k)) ∧ Hid (On .u32 wr wo.heap.size 66 (.slice (some ⟨gv, 0, none⟩) 8 cv) y.list) ∧ Hid (wo.grownBy wr (some gh))) (fun i _ => 8 - (intOf i).toNat)
                  case atStart => exact ⟨0, by omega, rfl, HH0, hv, HG0⟩
                  case round =>
                    clear HH0 HG0 hv hbl
                    obtain ⟨k, hk, rfl, hh, hv, hg⟩ := hrel
                    by_cases hlk : k < 8
                    · as_aux_lemma =>
                      have cv1 := (hh.out.cell k hlk).1
                      have fv1 := (hh.out.cell k hlk).2
                      have cy1 := (hv.out.cell k hlk).1
                      rw [plus_get _ _ _ hlk] at cv1
                      have HX := Lib.hid (plus_set s y k hlk)
                      have hlk' : (k : Int) < 8 := by omega
                      have HGV : Hid (gv ≠ gh) := Lib.hid (by have := hv.out.block_own.1; have := HGW.out; omega)
                      generalize s.list.getD k 0 = y1 at *
                      generalize y.list.getD k 0 = y2 at *
                      go_upto_region 33 with fail
                      go_region
                      go_wp2
                      have hx : ((y1 : Int) + (y2 : Int)) % 4294967296 = (((y1 + y2) % 4294967296 : Nat) : Int) := by omega
                      rw [hx]
                      have h1 := hh.out.set k hlk ((y1 + y2) % 4294967296)
                      rw [HX.out] at h1
                      have h2 : On .u32 (wr.setCell ⟨gh, k, none⟩ (.int .u32 (((y1 + y2) % 4294967296 : Nat) : Int))) wo.heap.size 66 (.slice (some ⟨gv, 0, none⟩) 8 cv) y.list := hv.out.grown (grown_setCell (grown_refl wr (some gh)) _) (by simp [Value.ownBlock]; exact HGV.out)
                      have h3 := grown_setCell (o := k) hg.out (.int .u32 (((y1 + y2) % 4294967296 : Nat) : Int))
                      refine ⟨?_, by simp [intOf]; omega⟩
                      first
                        | exact ⟨k + 1, by omega, by go_num, Lib.hid (h1.later ((Below.refl _ _).drew)), Lib.hid (h2.later ((Below.refl _ _).drew)), Lib.hid (grown_drew h3)⟩
                        | ((repeat apply Exists.intro); refine ⟨?_, rfl⟩; exact ⟨k + 1, by omega, by go_num, Lib.hid (h1.later ((Below.refl _ _).drew)), Lib.hid (h2.later ((Below.refl _ _).drew)), Lib.hid (grown_drew h3)⟩)
                    · obtain rfl : k = 8 := by omega
                      have hE : (s.plus y).list.take 8 ++ s.list.drop 8 = (s.plus y).list := rfl
                      rw [hE] at hh
                      have HTT : Hid (T + 1 ≤ nb ∧ a + 64 = 64 * (T + 1)) := Lib.hid (by have := hT.out; have := HMD.out; omega)
                      have HRS : Hid (runS kS hS (msg zs) (T + 1) = s.plus y) := Lib.hid (by
                        have e1 : runS kS hS (msg zs) (T + 1) = mixW kS (sched (wds ((msg zs).drop (64 * T)) 16) 48) (runS kS hS (msg zs) T) := rfl
                        rw [e1, ← hT.out.1, HWS.out, HS.out, ← plus_comm', ← HY.out]
                        rfl)
                      rw [← HRS.out] at hh
                      have HGT := Lib.hid (grown_trans hgr.out hg.out)
                      clear hE
                      go_wp2
                      refine ⟨⟨T + 1, a + 64, by go_num, Lib.hid ⟨HTT.out.2, HTT.out.1⟩, hh, HGT⟩, ?_⟩
                      have := HAM.out
                      simp [intOf]
                      omega
    · as_aux_lemma =>
      have HTE : Hid (T = nb) := Lib.hid (by have := hT.out; have := HMD.out; omega)
      rw [HTE.out] at hhv
      have HSD : Hid (shaS zs = dig (runS kS hS (msg zs) nb)) := Lib.hid (by
        have e1 : (msg zs).length / 64 = nb := by rw [HMS.out, ← HMD.out]; omega
        unfold shaS
        rw [e1])
      have HOK := Lib.hid (runS_ok hS_ok (msg zs) nb (ks := kS))
      generalize runS kS hS (msg zs) nb = S at *
      have HHV2 : Hid (On .u32 wr 0 66 (.slice (some ⟨gh, 0, none⟩) 8 ch) S.list) := hhv
      go_wp2_with fail
      have HS1 : Hid (w1.heap.size ≤ wr.heap.size) := Lib.hid hgr.out.size
      have HSB : Hid (w.heap.size < w1.heap.size) := Lib.hid HY1.out.lt
      have hgk : w.grownBy wr (some gh) := grown_trans (grown_below (grown_refl _ _) HB1.out) hgr.out
      have hbx : Below wr.heap.size wr (wr.alloc (.cells (bcs (List.replicate 32 0)) 24)) := (Below.refl _ _).alloc (Nat.le_refl _) _
      have HYr : Hid (Yw wr w.heap.size 24 (List.replicate 32 0)) := Lib.hid (HY1.out.keep (hgr.out.block _ HSB.out (by have := HGH.out; simp; omega)))
      have HY5 : Hid (Yw (wr.alloc (.cells (bcs (List.replicate 32 0)) 24)) wr.heap.size 24 (List.replicate 32 0)) := Lib.hid (heap_alloc_new _ _)
      have HY5b : Hid (Yw (wr.alloc (.cells (bcs (List.replicate 32 0)) 24)) w.heap.size 24 (List.replicate 32 0)) := Lib.hid (HYr.out.later hbx)
      have HHW : Hid (On .u32 (wr.alloc (.cells (bcs (List.replicate 32 0)) 24)) 0 66 (.slice (some ⟨gh, 0, none⟩) 8 ch) S.list) := Lib.hid (HHV2.out.later hbx)
      have HG5 : Hid (w.grownBy (wr.alloc (.cells (bcs (List.replicate 32 0)) 24)) (some gh)) := Lib.hid (grown_below hgk hbx)
      have HMX : Hid (w.heap.size < wr.heap.size) := Lib.hid (by have := HS1.out; have := HSB.out; omega)
      have HGX : Hid (gh < wr.heap.size) := Lib.hid (by have := HMX.out; have := HGH.out; omega)
      clear HHV2 hhv hgk hbx HYr
      generalize hDD : wr.heap.size = DD at *
      obtain ⟨w5, hw5⟩ : ∃ w5, wr.alloc (.cells (bcs (List.replicate 32 0)) 24) = w5 := ⟨_, rfl⟩
      rw [hw5] at HY5 HY5b HHW HG5
      change wr.alloc (.cells #[.int .u8 0, .int .u8 0, .int .u8 0, .int .u8 0, .int .u8 0, .int .u8 0, .int .u8 0, .int .u8 0, .int .u8 0, .int .u8 0, .int .u8 0, .int .u8 0, .int .u8 0, .int .u8 0, .int .u8 0, .int .u8 0, .int .u8 0, .int .u8 0, .int .u8 0, .int .u8 0, .int .u8 0, .int .u8 0, .int .u8 0, .int .u8 0, .int .u8 0, .int .u8 0, .int .u8 0, .int .u8 0, .int .u8 0, .int .u8 0, .int .u8 0, .int .u8 0] 24) = w5 at hw5
      rw [hw5]
      clear hw5 hDD hT hgr
      go_loopw [25] (fun i wr => ∃ k : Nat, k ≤ 32 ∧ i = .int .i64 k ∧ Hid (Yw wr DD 24 (dl S k)) ∧ Hid (Yw wr w.heap.size 24 (List.replicate 32 0)) ∧ Hid (On .u32 wr 0 66 (.slice (some ⟨gh, 0, none⟩) 8 ch) S.list) ∧ Hid (w.grownBy wr (some gh))) (fun i _ => 32 - (intOf i).toNat)
      case atStart => exact ⟨0, by omega, rfl, HY5, HY5b, HHW, HG5⟩
      case round =>
        clear HY5 HY5b HHW HG5 HKV HM HAW
        obtain ⟨k, hk, rfl, hy, hr, hh, hg⟩ := hrel
        by_cases hlk : k < 32
        · as_aux_lemma =>
          obtain ⟨q, hq⟩ : ∃ q, k / 4 = q := ⟨_, rfl⟩
          obtain ⟨r, hr4⟩ : ∃ r, k % 4 = r := ⟨_, rfl⟩
          obtain ⟨t, ht⟩ : ∃ t, 8 * (3 - r) = t := ⟨_, rfl⟩
          have hr3 : r < 4 := by omega
          have HK4 : Hid (k = 4 * q + r) := Lib.hid (by omega)
          have hq8 : q < 8 := by omega
          have hqi : (q : Int) < 8 := by omega
          have e1 : (k : Int) / 4 = (q : Int) := by omega
          have e2 : (k : Int) % 4 = (r : Int) := by omega
          have e3 : Int.tdiv (k : Int) 4 = (q : Int) := by rw [Int.tdiv_eq_ediv_of_nonneg (by omega)]; exact e1
          have e4 : Int.tmod (k : Int) 4 = (r : Int) := by rw [Int.tmod_eq_emod_of_nonneg (by omega)]; exact e2
          have e5 : (24 : Int) - 8 * (r : Int) = (t : Int) := by omega
          have ht32 : t < 32 := by omega
          have HDG := Lib.hid (dig_get S q r hq8 hr3)
          have HT := Lib.hid ht
          have hki : (k : Int) < 32 := by omega
          clear hq hr4 ht
          have ch1 := (hh.out.cell q hq8).1
          generalize S.list.getD q 0 = x at *
          have c := hy.out.cell k (by rw [dl_length _ _ (by omega)]; omega)
          have f := hy.out.frozen k
          go_wp2
          have hv : (x : Int) / 2 ^ t % 256 = ((x / 2 ^ t % 256 : Nat) : Int) := by
            rw [Int.natCast_emod, Int.natCast_ediv, Int.natCast_pow]
            rfl
          rw [hv]
          have hE : ((x / 2 ^ t % 256 : Nat) : Int) = (dig S).getD k 0 := by rw [← HT.out, ← HDG.out, ← HK4.out]
          have h := hy.out.set k ((x / 2 ^ t % 256 : Nat) : Int)
          have h2 : (dl S k).set k ((x / 2 ^ t % 256 : Nat) : Int) = dl S (k + 1) := by rw [hE]; exact dl_set S k hlk
          rw [h2] at h
          have hmx := HMX.out
          have hgx := HGX.out
          exact ⟨⟨k + 1, by omega, by go_num, Lib.hid h, Lib.hid (hr.out.other _ _ (by show w.heap.size ≠ DD; omega)), Lib.hid (hh.out.grown (grown_setCell (b := DD) (grown_refl wr (some DD)) _) (by simp [Value.ownBlock]; omega)), Lib.hid (grown_setOther hg.out (by omega) _)⟩, by simp [intOf]; omega⟩
        · as_aux_lemma =>
          obtain rfl : k = 32 := by omega
          have HZ1 : Hid ((Tryd.prog.info? 24).map (·.size) = some (bcs (dl S 32)).size) := Lib.hid (by rw [bcs_size, dl_length _ _ (by omega)]; exact size32)
          have HZ2 : Hid ((bcs (List.replicate 32 0)).size = (bcs (dl S 32)).size) := Lib.hid (by rw [bcs_size, bcs_size, dl_length _ _ (by omega), List.length_replicate])
          have HE : Hid (dl S 32 = shaS zs) := Lib.hid (by rw [HSD.out]; exact dl_end S)
          rw [HE.out] at hy HZ1 HZ2
          have HSL : Hid ((shaS zs).length = 32) := Lib.hid (by rw [HSD.out]; exact dig_length S)
          clear HE
          obtain ⟨d, hd⟩ : ∃ d, shaS zs = d := ⟨_, rfl⟩
          have HD := Lib.hid hd
          rw [hd] at hy HZ1 HZ2 HSL
          clear hd
          go_wp2_with (first
            | (refine wpList_load_row rfl 24 _ rfl DD rfl 24 _ (0, 0) _ hy.out Tryd.underlying24 rfl HZ1.out ?_)
            | (refine wpList_store_row rfl 24 _ _ rfl w.heap.size _ rfl rfl 24 _ hr.out HZ1.out HZ2.out (bcs_one _) ?_))
          rw [HD.out]
          refine bodyPost_ret (Yw.results hr.out.row rfl _ rfl _ Tryd.underlying24 rfl (by rw [HSL.out]; exact size32)) rfl ⟨rfl, grown_setRowOther hg.out (Nat.le_refl _) _⟩
end Go.Proofs.YtlggbicjgddnaaaDoor
