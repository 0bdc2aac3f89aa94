/- Layer 17, the program: line -/
import Derived.Test.YtahjofjblhpndaaDoorMn15
import Derived.Test.YtahjofjblhpndaaDoorMn20
import Derived.Test.YtahjofjblhpndaaDoorMn25
import Derived.Test.YtahjofjblhpndaaDoorMn26
import Derived.Deep.DeepCutAuto
set_option linter.unusedSimpArgs false
set_option linter.unusedVariables false
namespace Go.Proofs.YtahjofjblhpndaaDoor
set_option linter.unusedVariables false
open Go.RowKit Go.Lib

theorem itoa_any (n : Nat) (w : World) (hn : n ≤ 999999999) (hL : Lw w) : Calls Tryd.prog 25 #[.int .i64 (n : Int)] w fun e w' => e = .returned (.string (strOfNums (dgs n))) ∧ Below w.heap.size w w' := by
  have e : (⟨(Lib.itoa (n : Int)).toArray⟩ : ByteArray) = strOfNums (dgs n) := by rw [← dgs_itoa, strOfNums_numsOf]
  rw [← e]
  exact itoa_tab (n : Int) w (by omega) (by omega) hL.1
theorem strOf_10M : strOfNums [10] = ⟨#[10]⟩ := by decide
set_option maxRecDepth 100000 in
set_option maxHeartbeats 1000000 in
theorem mline_any (x : Rf) (w : World) (hx : x.Ok) (hs : sizeOk x = true) (hL : Lw w) :
    Calls Tryd.prog 15 #[x.v] w fun e w' => e = .returned (.string (strOfNums (lineN x ++ [10]))) ∧ Below w.heap.size w w' := by
  obtain ⟨wA, hA, hmA, hbA, c0, c33, hld⟩ := box_rf w x hx.dg.1
  have HB := Lib.hid hbA
  have HLD := Lib.hid fun W (hW : Below wA.heap.size wA W) => hld W hW
  have HTX := Lib.hid fun W => text_ok x.dg W hx.dg
  have hts := dtext_size hx.dg
  have HLN := Lib.hid (show lineN x = if x.m then manPre ++ dtext x.dg else bloPre ++ (dtext x.dg ++ 32 :: dgs x.z.toNat) from rfl)
  have HS := Lib.hid hs
  have HLW := Lib.hid hL
  unfold sizeOk at HS
  obtain ⟨LL, hLL⟩ : ∃ l, lineN x = l := ⟨_, rfl⟩
  rw [hLL] at HLN ⊢
  obtain ⟨D, hD⟩ : ∃ D, x.dg = D := ⟨_, rfl⟩
  rw [hD] at HLD HTX HLN hts
  obtain ⟨Z, hZ⟩ : ∃ z, x.z = z := ⟨_, rfl⟩
  rw [hZ] at c33 HLN HS
  obtain ⟨Tx, hTx⟩ : ∃ t, strOfNums (dtext D) = t := ⟨_, rfl⟩
  rw [hTx] at HTX hts
  have HTE := Lib.hid hTx
  obtain ⟨b, hb⟩ : ∃ b, x.m = b := ⟨_, rfl⟩
  rw [hb] at c0 HLN HS
  unfold Rf.v
  generalize mixC x.a x.dg x.t = M at *
  have HBA : Hid (Below wA.heap.size wA wA) := Lib.hid (Below.refl _ _)
  clear hx hs hmA hbA hld hLL hD hZ hTx hb hL
  cases b
  · rw [if_neg (by decide)] at HLN
    rw [Hid.eq_1, Bool.false_or] at HS
    obtain ⟨z0, z1⟩ := of_decide_eq_true HS
    obtain ⟨n, hn⟩ : ∃ n : Nat, Z = (n : Int) := ⟨Z.toNat, by omega⟩
    subst hn
    rw [Int.toNat_natCast] at HLN
    have hn9 : n ≤ 999999999 := by omega
    have HFG := Lib.hid fun W hW => itoa_any n W hn9 hW
    have hfs := dgs_size hn9
    obtain ⟨Fx, hFx⟩ : ∃ t, strOfNums (dgs n) = t := ⟨_, rfl⟩
    rw [hFx] at HFG hfs
    have HR : Hid ((((⟨#[98, 108, 111, 98, 32]⟩ ++ Tx) ++ ⟨#[32]⟩) ++ Fx) ++ ⟨#[10]⟩ = strOfNums (LL ++ [10])) := Lib.hid (by
      rw [HLN.out, strOf_append, strOf_append, strOf_append, show (32 : Int) :: dgs n = [32] ++ dgs n from rfl, strOf_append, strOf_blo, strOf_32, strOf_10M, HTE.out, hFx, ByteArray.append_assoc, ByteArray.append_assoc, ByteArray.append_assoc, ByteArray.append_assoc, ByteArray.append_assoc, ByteArray.append_assoc])
    clear HS z0 z1 hFx
    have hcc : ¬ 9223372036854775807 < 77 + Fx.size := by omega
    have hcd : ¬ 9223372036854775807 < 77 + Fx.size + 1 := by omega
    have CT := Lib.hid fun (U : Fut wA.heap.size wA) => (Calls.fut (Nat.le_refl _) (HTX.out U.W) : Calls Tryd.prog 24 #[.agg (bcs D)] U.W fun e w' => e = .returned (.string Tx) ∧ ∃ V : Fut wA.heap.size wA, w' = V.W)
    have CF := Lib.hid fun (U : Fut wA.heap.size wA) => (Calls.fut (Nat.le_refl _) (HFG.out U.W (HLW.out.later (below_step HB.out U.le))) : Calls Tryd.prog 25 #[.int .i64 (n : Int)] U.W fun e w' => e = .returned (.string Fx) ∧ ∃ V : Fut wA.heap.size wA, w' = V.W)
    have HLU := Lib.hid fun (W : World) (h : ∃ U : Fut wA.heap.size wA, W = U.W) => (by obtain ⟨U, rfl⟩ := h; exact HLD.out _ U.le : (Instr.loadAt 39 (.pointer (some ⟨w.heap.size, 1, none⟩))).run Tryd.prog W = .ok (.agg (bcs D)) W)
    have hcz := fun (U : Fut wA.heap.size wA) => (U.le.cell (p := ⟨w.heap.size, 33, none⟩) (World.block_lt_of_cell? wA _ c33)).trans c33
    go_enter Tryd.func15, Tryd.ntmps15
    go_upto_region 3 with fail
    refine wp_region_quiet_fut wA.heap.size (by kernel_rfl) (by kernel_rfl) ?_
    repeat (first
      | (refine qwant (by rfl) fun K hK => qload 39 _ rfl _ rfl _ HLU.out (hK _ ?_); clear hK K)
      | (quiet_step (first
        | (go_at_call 24; exact CT.out _)
        | (go_at_call 25; exact CF.out _))))
    refine wpQuiet_nil ?_
    intro _ hw'
    obtain ⟨⟨w4, hb4⟩, hw''⟩ := hw'
    subst hw''
    (try dsimp only)
    have HB4 := Lib.hid (below_step HB.out hb4)
    go_wp2
    go_ret
    exact ⟨by rw [← HR.out]; rfl, HB4.out⟩
  · rw [if_pos rfl] at HLN
    have HR : Hid ((⟨#[109, 97, 110, 105, 102, 101, 115, 116, 32]⟩ ++ Tx) ++ ⟨#[10]⟩ = strOfNums (LL ++ [10])) := Lib.hid (by rw [HLN.out, strOf_append, strOf_append, strOf_man, strOf_10M, HTE.out])
    go_enter Tryd.func15, Tryd.ntmps15
    go_wp2_with (first
      | (refine wpList_ld rfl 39 _ rfl _ rfl _ (HLD.out _ HBA.out) ?_)
      | (go_at_call 24; refine (HTX.out _).mono ?_; rintro e w2 ⟨rfl, hb2⟩; have HB2 := Lib.hid (below_step HB.out hb2); clear hb2))
    go_ret
    exact ⟨by rw [← HR.out]; rfl, HB2.out⟩
end Go.Proofs.YtahjofjblhpndaaDoor
