/- The reference of layer 17: Line; Layer 17, the program: is a digest that of one of the references? -/
import Derived.Test.YtahjofjblhpndaaDoorMn10
import Derived.Test.YtahjofjblhpndaaDoorMn14
import Derived.Deep.DeepCutAuto
set_option linter.unusedSimpArgs false
set_option linter.unusedVariables false
namespace Go.Proofs.YtahjofjblhpndaaDoor
set_option linter.unusedVariables false
open Go.RowKit Go.Lib

theorem strOf_append (a b : List Int) : strOfNums (a ++ b) = strOfNums a ++ strOfNums b := by
  apply ByteArray.ext
  apply Array.toList_inj.1
  rw [ByteArray.data_append, Array.toList_append, strOfNums_data, strOfNums_data, strOfNums_data, List.map_append]
theorem strOf_man : strOfNums manPre = ⟨#[109, 97, 110, 105, 102, 101, 115, 116, 32]⟩ := by decide
theorem strOf_blo : strOfNums bloPre = ⟨#[98, 108, 111, 98, 32]⟩ := by decide
theorem strOf_32 : strOfNums [32] = ⟨#[32]⟩ := by decide
/-- what a call that boxes a reference finds -/
theorem box_rf (w : World) (x : Rf) (hd : x.dg.length = 32) : ∃ wA, w.alloc (.cells (mixC x.a x.dg x.t) 41) = wA ∧ Mx wA w.heap.size 41 x.a x.dg x.t ∧ Below w.heap.size w wA ∧ wA.cell? ⟨w.heap.size, 0, none⟩ = some (.bool x.m) ∧ wA.cell? ⟨w.heap.size, 33, none⟩ = some (.int .i64 x.z) ∧
    ∀ W, Below wA.heap.size wA W → (Instr.loadAt 39 (.pointer (some ⟨w.heap.size, 1, none⟩))).run Tryd.prog W = .ok (.agg (bcs x.dg)) W := by
  have h : Mx (w.alloc (.cells (mixC x.a x.dg x.t) 41)) w.heap.size 41 x.a x.dg x.t := heap_alloc_new _ _
  refine ⟨_, rfl, h, (Below.refl _ _).alloc (Nat.le_refl _) _, h.first 0 _ rfl, h.last hd 0 _ rfl, fun W hW => ?_⟩
  have h1 := run_loadAt_mid W w.heap.size 1 39 _ _ (h.later hW).digRange Tryd.underlying39 rfl (by rw [List.length_map, hd]; exact size32)
  rw [h1]
  rfl
set_option maxRecDepth 100000 in
set_option maxHeartbeats 1000000 in
theorem rline17_any (x : Rf) (w : World) (hx : x.Ok) (hs : sizeOk x = true) :
    Calls Tryd.prog 17 #[x.v] w fun e w' => e = .returned (.string (strOfNums (lineN x))) ∧ Below w.heap.size w w' := by
  obtain ⟨wA, hA, hmA, hbA, c0, c33, hld⟩ := box_rf w x hx.dg.1
  have HB := Lib.hid hbA
  have HLD := Lib.hid fun W (hW : Below wA.heap.size wA W) => hld W hW
  have HTX := Lib.hid fun W => rtext_any x.dg W hx.dg
  have hts := dtext_size hx.dg
  have HLN := Lib.hid (show lineN x = if x.m then manPre ++ dtext x.dg else bloPre ++ (dtext x.dg ++ 32 :: dgs x.z.toNat) from rfl)
  have HS := Lib.hid hs
  unfold sizeOk at HS
  obtain ⟨LL, hLL⟩ : ∃ l, lineN x = l := ⟨_, rfl⟩
  rw [hLL] at HLN ⊢
  obtain ⟨D, hD⟩ : ∃ D, x.dg = D := ⟨_, rfl⟩
  rw [hD] at HLD HTX HLN hts
  obtain ⟨Z, hZ⟩ : ∃ z, x.z = z := ⟨_, rfl⟩
  rw [hZ] at c33 HLN HS
  obtain ⟨Tx, hTx⟩ : ∃ t, strOfNums (dtext D) = t := ⟨_, rfl⟩
  rw [hTx] at HTX hts
  have HTE := Lib.hid hTx
  obtain ⟨b, hb⟩ : ∃ b, x.m = b := ⟨_, rfl⟩
  rw [hb] at c0 HLN HS
  unfold Rf.v
  generalize mixC x.a x.dg x.t = M at *
  have HBA : Hid (Below wA.heap.size wA wA) := Lib.hid (Below.refl _ _)
  clear hx hs hmA hbA hld hLL hD hZ hTx hb
  cases b
  · rw [if_neg (by decide)] at HLN
    rw [Hid.eq_1, Bool.false_or] at HS
    obtain ⟨z0, z1⟩ := of_decide_eq_true HS
    obtain ⟨n, hn⟩ : ∃ n : Nat, Z = (n : Int) := ⟨Z.toNat, by omega⟩
    subst hn
    rw [Int.toNat_natCast] at HLN
    have hn9 : n ≤ 999999999 := by omega
    have HFG := Lib.hid fun W => rfigs17_any n W hn9
    have hfs := dgs_size hn9
    obtain ⟨Fx, hFx⟩ : ∃ t, strOfNums (dgs n) = t := ⟨_, rfl⟩
    rw [hFx] at HFG hfs
    have HR : Hid (((⟨#[98, 108, 111, 98, 32]⟩ ++ Tx) ++ ⟨#[32]⟩) ++ Fx = strOfNums LL) := Lib.hid (by
      rw [HLN.out, strOf_append, strOf_append, show (32 : Int) :: dgs n = [32] ++ dgs n from rfl, strOf_append, strOf_blo, strOf_32, HTE.out, hFx, ByteArray.append_assoc, ByteArray.append_assoc])
    clear HS z0 z1 hFx
    have hcc : ¬ 9223372036854775807 < 77 + Fx.size := by omega
    have CT := Lib.hid fun (U : Fut wA.heap.size wA) => (Calls.fut (Nat.le_refl _) (HTX.out U.W) : Calls Tryd.prog 26 #[.agg (bcs D)] U.W fun e w' => e = .returned (.string Tx) ∧ ∃ V : Fut wA.heap.size wA, w' = V.W)
    have CF := Lib.hid fun (U : Fut wA.heap.size wA) => (Calls.fut (Nat.le_refl _) (HFG.out U.W) : Calls Tryd.prog 27 #[.int .i64 (n : Int)] U.W fun e w' => e = .returned (.string Fx) ∧ ∃ V : Fut wA.heap.size wA, w' = V.W)
    have HLU := Lib.hid fun (W : World) (h : ∃ U : Fut wA.heap.size wA, W = U.W) => (by obtain ⟨U, rfl⟩ := h; exact HLD.out _ U.le : (Instr.loadAt 39 (.pointer (some ⟨w.heap.size, 1, none⟩))).run Tryd.prog W = .ok (.agg (bcs D)) W)
    have hcz := fun (U : Fut wA.heap.size wA) => (U.le.cell (p := ⟨w.heap.size, 33, none⟩) (World.block_lt_of_cell? wA _ c33)).trans c33
    go_enter Tryd.func17, Tryd.ntmps17
    go_upto_region 3 with fail
    refine wp_region_quiet_fut wA.heap.size (by kernel_rfl) (by kernel_rfl) ?_
    repeat (first
      | (refine qwant (by rfl) fun K hK => qload 39 _ rfl _ rfl _ HLU.out (hK _ ?_); clear hK K)
      | (quiet_step (first
        | (go_at_call 26; exact CT.out _)
        | (go_at_call 27; exact CF.out _))))
    refine wpQuiet_nil ?_
    intro _ hw'
    obtain ⟨⟨w4, hb4⟩, hw''⟩ := hw'
    subst hw''
    (try dsimp only)
    have HB4 := Lib.hid (below_step HB.out hb4)
    go_wp2
    go_ret
    exact ⟨by rw [← HR.out]; rfl, HB4.out⟩
  · rw [if_pos rfl] at HLN
    have HR : Hid (⟨#[109, 97, 110, 105, 102, 101, 115, 116, 32]⟩ ++ Tx = strOfNums LL) := Lib.hid (by rw [HLN.out, strOf_append, strOf_man, HTE.out])
    go_enter Tryd.func17, Tryd.ntmps17
    go_wp2_with (first
      | (refine wpList_ld rfl 39 _ rfl _ rfl _ (HLD.out _ HBA.out) ?_)
      | (go_at_call 26; refine (HTX.out _).mono ?_; rintro e w2 ⟨rfl, hb2⟩; have HB2 := Lib.hid (below_step HB.out hb2); clear hb2))
    go_ret
    exact ⟨by rw [← HR.out]; rfl, HB2.out⟩
end Go.Proofs.YtahjofjblhpndaaDoor

namespace Go.Proofs.YtahjofjblhpndaaDoor
set_option linter.unusedVariables false
open Go.RowKit Go.Lib

theorem yw_load {W : World} {b : Nat} {d : List Int} (h : Yw W b 39 d) (hd : d.length = 32) : (Instr.loadAt 39 (.pointer (some ⟨b, 0, none⟩))).run Tryd.prog W = .ok (.agg (bcs d)) W := by
  have hr : W.rangeAt b 0 (d.map (Value.int .u8)) := fun i v hv => by
    rw [Nat.zero_add]
    have h1 : W.heap[b]? = some (.cells (bcs d) 39 (0, 0)) := h
    simp only [World.cell?, h1]
    have h2 : (bcs d)[i]? = some v := by simpa [bcs] using hv
    simpa using h2
  have h1 := run_loadAt_mid W b 0 39 _ _ hr Tryd.underlying39 rfl (by rw [List.length_map, hd]; exact size32)
  rw [h1]
  rfl
set_option maxRecDepth 100000 in
theorem mhas1_any (x : Rf) (b : Nat) (d : List Int) (w : World) (hx : dok x.dg) (hd : dok d) (hY : Yw w b 39 d) :
    Calls Tryd.prog 23 #[x.v, .pointer (some ⟨b, 0, none⟩)] w fun e w' => e = .returned (.bool (decide (x.dg = d))) ∧ Below w.heap.size w w' := by
  obtain ⟨wA, hA, hmA, hbA, c0, c33, hld⟩ := box_rf w x hx.1
  have HB := Lib.hid hbA
  have HLD := Lib.hid (hld wA (Below.refl _ _))
  have HLY := Lib.hid (yw_load (hY.later hbA) hd.1)
  have heq := fun W => digest_eq x.dg d hx hd W
  obtain ⟨D, hD⟩ : ∃ D, x.dg = D := ⟨_, rfl⟩
  rw [hD] at HLD heq ⊢
  unfold Rf.v
  generalize mixC x.a x.dg x.t = M at *
  clear hx hd hY hmA hbA hld c0 c33 hD
  go_enter Tryd.func23, Tryd.ntmps23
  go_wp2_with (first
    | (refine wpList_ld rfl 39 _ rfl _ rfl _ HLD.out ?_)
    | (refine wpList_ld rfl 39 _ rfl _ rfl _ HLY.out ?_))
  go_ret
  exact ⟨rfl, HB.out⟩
/-- the first reference to d -/
def fstD (d : List Int) : List Rf → Int
  | [] => -1
  | q :: l => if q.dg = d then 0 else if fstD d l = -1 then -1 else fstD d l + 1
set_option maxRecDepth 100000 in
set_option maxHeartbeats 1000000 in
theorem midx_any (p : Option Addr) (n c : Nat) (L : List Fx) (b : Nat) (d : List Int) (w : World) (h : Gs encRf w p n L) (hk : ∀ x ∈ L, x.1.Ok) (hd : dok d) (hY : Yw w b 39 d) (hn : n ≤ 1048576) :
    Calls Tryd.prog 35 #[.slice p n c, .func (.func 23) #[] #[.pointer (some ⟨b, 0, none⟩)]] w
      fun e w' => ∃ k : Int, e = .returned (.int .i64 k) ∧ -1 ≤ k ∧ k ≤ 1048576 ∧ (decide (0 ≤ k) = (rfL L).any fun q => decide (q.dg = d)) ∧ Below w.heap.size w w' := by
  have H := Lib.hid h
  have HK := Lib.hid hk
  have HD := Lib.hid hd
  have HY := Lib.hid hY
  have HLL : Hid ((rfL L).length = n) := Lib.hid (by rw [rfL_length, h.len])
  clear h hk hd hY
  go_enter Tryd.func35, Tryd.ntmps35
  go_wp2
  go_loopw [8] (fun j wr => ∃ k : Nat, k ≤ n ∧ j = .int .i64 (k : Int) ∧ Hid (((rfL L).take k).any (fun q => decide (q.dg = d)) = false) ∧ Hid (Below w.heap.size w wr)) (fun j _ => n - (intOf j).toNat)
  case atStart => exact ⟨0, by omega, rfl, Lib.hid rfl, Lib.hid (Below.refl _ _)⟩
  case round =>
    obtain ⟨k, hkn, rfl, hm, hb⟩ := hrel
    by_cases hlt : k < n
    · have hds := H.out.later hb.out
      obtain ⟨b1, off, y, rfl, hy1, hy2, hy3, hr⟩ := hds.rf k hlt
      have HLD := Lib.hid (rf_load hr)
      have HC := Lib.hid (mhas1_any y.1 b d wr (HK.out y hy3).dg HD.out (HY.out.later hb.out))
      have HT : Hid (((rfL L).take (k + 1)).any (fun q => decide (q.dg = d)) = decide (y.1.dg = d)) := Lib.hid (by
        obtain ⟨hk', he⟩ := List.getElem?_eq_some_iff.1 hy2
        rw [List.take_succ_eq_append_getElem hk', List.any_append, hm.out, he]
        simp)
      have hki : (k : Int) < (n : Int) := by omega
      have hk0 : (0 : Int) ≤ (k : Int) := by omega
      clear hds hr hy1 hy2 hy3
      unfold Rf.v at HC
      obtain ⟨B, hB⟩ : ∃ B, decide (y.1.dg = d) = B := ⟨_, rfl⟩
      rw [hB] at HC HT
      unfold Rf.v at HLD
      generalize mixC y.1.a y.1.dg y.1.t = M at *
      clear hB
      cases B
      · go_wp2_with (first
          | (refine wpList_ld rfl 41 _ rfl _ rfl _ HLD.out ?_)
          | (go_at_call 23; refine HC.out.mono ?_; rintro e w2 ⟨rfl, hb2⟩; have HB2 := Lib.hid (below_step hb.out hb2); clear hb2))
        exact ⟨⟨k + 1, by omega, by go_num, HT, HB2⟩, by simp [intOf] <;> omega⟩
      · have HF : Hid ((rfL L).any (fun q => decide (q.dg = d)) = true) := Lib.hid (by
          have h1 := HT.out
          rw [List.any_eq_true] at h1 ⊢
          obtain ⟨x, hx, hx2⟩ := h1
          exact ⟨x, List.mem_of_mem_take hx, hx2⟩)
        go_wp2_with (first
          | (refine wpList_ld rfl 41 _ rfl _ rfl _ HLD.out ?_)
          | (go_at_call 23; refine HC.out.mono ?_; rintro e w2 ⟨rfl, hb2⟩; have HB2 := Lib.hid (below_step hb.out hb2); clear hb2))
        go_ret
        exact ⟨_, rfl, by omega, by omega, by rw [HF.out]; exact decide_eq_true hk0, HB2.out⟩
    · obtain rfl : k = n := by omega
      have HF : Hid ((rfL L).any (fun q => decide (q.dg = d)) = false) := Lib.hid (by
        have h1 := hm.out
        rwa [List.take_of_length_le (by rw [HLL.out]; exact Nat.le_refl _)] at h1)
      go_wp2
      go_ret
      exact ⟨_, rfl, by omega, by omega, by rw [HF.out]; rfl, hb.out⟩
set_option maxRecDepth 100000 in
theorem mcont_any (p : Option Addr) (n c : Nat) (L : List Fx) (b : Nat) (d : List Int) (w : World) (h : Gs encRf w p n L) (hk : ∀ x ∈ L, x.1.Ok) (hd : dok d) (hY : Yw w b 39 d) (hn : n ≤ 1048576) :
    Calls Tryd.prog 22 #[.slice p n c, .func (.func 23) #[] #[.pointer (some ⟨b, 0, none⟩)]] w
      fun e w' => e = .returned (.bool ((rfL L).any fun q => decide (q.dg = d))) ∧ Below w.heap.size w w' := by
  have HC := Lib.hid (midx_any p n c L b d w h hk hd hY hn)
  clear h hk hd hY hn
  generalize (rfL L).any (fun q => decide (q.dg = d)) = R at *
  go_enter Tryd.func22, Tryd.ntmps22
  go_wp2_with fail
  refine HC.out.mono ?_
  rintro e w2 ⟨k, rfl, h1, h2, h3, hb2⟩
  have H3 := Lib.hid h3
  have HB2 := Lib.hid hb2
  clear h3 hb2
  go_wp2
  go_ret
  exact ⟨ret_bool H3.out, HB2.out⟩
set_option maxRecDepth 100000 in
theorem mhas_any (p : Option Addr) (n c : Nat) (L : List Fx) (d : List Int) (w : World) (h : Gs encRf w p n L) (hk : ∀ x ∈ L, x.1.Ok) (hd : dok d) (hn : n ≤ 1048576) :
    Calls Tryd.prog 14 #[.slice p n c, .agg (bcs d)] w fun e w' => e = .returned (.bool ((rfL L).any fun q => decide (q.dg = d))) ∧ Below w.heap.size w w' := by
  have HB0 : Hid (Below w.heap.size w (w.alloc (.cells (bcs d) 39))) := Lib.hid ((Below.refl _ _).alloc (Nat.le_refl _) _)
  have HY0 : Yw (w.alloc (.cells (bcs d) 39)) w.heap.size 39 d := heap_alloc_new _ _
  have HC := Lib.hid (mcont_any p n c L w.heap.size d _ (h.later HB0.out) hk hd HY0 hn)
  clear h hk hd hn HY0
  generalize (rfL L).any (fun q => decide (q.dg = d)) = R at *
  generalize bcs d = M at *
  go_enter Tryd.func14, Tryd.ntmps14
  go_wp2_with fail
  refine HC.out.mono ?_
  rintro e w2 ⟨rfl, hb2⟩
  have HB2 := Lib.hid (below_step HB0.out hb2)
  clear hb2
  go_wp2
  go_ret
  exact ⟨rfl, HB2.out⟩
end Go.Proofs.YtahjofjblhpndaaDoor
