/- The reference's quick sum. -/
import Derived.Test.YtlggbicjgddnaaaDoorShaR3
namespace Go.Proofs.YtlggbicjgddnaaaDoor
set_option linter.unusedVariables false
open Go.RowKit Go.Lib

theorem bs_away {w : World} {p : Option Addr} {n b : Nat} {zs : List Int} (h : Bs w p n zs) (hb : w.heap.size ≤ b) : Away p n b := by
  obtain ⟨h1, h2, h3⟩ := h
  by_cases h0 : n = 0
  · exact Or.inl h0
  · rcases h3 with h3 | ⟨g, off, rfl, hc⟩
    · exact Or.inl h3
    · refine Or.inr fun a ha => ?_
      cases ha
      have := World.block_lt_of_cell? w _ (hc 0 (by omega))
      show g ≠ b
      have h4 : g < w.heap.size := this
      omega
theorem ysize_all (l : List Int) (h : l.length = 32) : (Tryd.prog.info? 24).map (·.size) = some (bcs l).size := by rw [bcs_size, h]; exact size32

set_option maxRecDepth 100000 in
theorem rsum_any (p : Option Addr) (len cap : Nat) (zs : List Int) (w : World) (h : Bs w p len zs) (hpc : p = none → cap = 0) (hlen : len ≤ 1048576) :
    Calls Tryd.prog 10 #[.slice p len cap] w fun e w' => e = .returned (.agg (bcs (shaS zs))) ∧ Below w.heap.size w w' := by
  have H := Lib.hid h
  have HPC := Lib.hid hpc
  have HB0 : Hid (Below w.heap.size w (w.alloc (.cells (bcs (List.replicate 32 0)) 24))) := Lib.hid ((Below.refl _ _).alloc (Nat.le_refl _) _)
  have HR0 : Hid (Yw (w.alloc (.cells (bcs (List.replicate 32 0)) 24)) w.heap.size 24 (List.replicate 32 0)) := Lib.hid (heap_alloc_new _ _)
  have HAW : Hid (∀ b, w.heap.size ≤ b → Away p len b) := Lib.hid fun b hb => bs_away h hb
  have HSL : Hid ((shaS zs).length = 32) := Lib.hid (shaS_length zs)
  clear h hpc
  go_enter Tryd.func10, Tryd.ntmps10
  go_wp2_with fail
  refine (constants_any _ (w.heap.size + 1) (w.heap.size + 2) (by simp) (by simp)).mono ?_
  rintro e w1 ⟨rfl, hk, hh, hb1⟩
  have HB1 : Hid (Below w.heap.size w w1) := Lib.hid (below_step HB0.out hb1)
  have HR1 : Hid (Yw w1 w.heap.size 24 (List.replicate 32 0)) := Lib.hid (HR0.out.later hb1)
  have HK : Hid (On .u32 w1 0 66 (.slice (some ⟨w.heap.size + 1, 0, none⟩) 64 64) kS) := Lib.hid (hk.mono (Nat.zero_le _))
  have HH : Hid (On .u32 w1 0 66 (.slice (some ⟨w.heap.size + 2, 0, none⟩) 8 8) hS.list) := Lib.hid (hh.mono (Nat.zero_le _))
  clear hk hh hb1
  go_wp2_with fail
  refine (blocks_any p len cap zs (w.heap.size + 1) 64 (w.heap.size + 2) 8 _ (H.out.later HB1.out) HPC.out hlen HK.out HH.out (by omega) (HAW.out _ (by omega))).mono ?_
  rintro e w2 ⟨rfl, hg2⟩
  have HB2 : Hid (Below w.heap.size w w2) := Lib.hid (HB1.out.grown hg2 HB1.out.size (fun j hj => by cases hj; omega))
  have HR2 : Hid (Yw w2 w.heap.size 24 (List.replicate 32 0)) := Lib.hid (HR1.out.keep (hg2.block _ HR1.out.lt (by simp)))
  clear hg2
  go_wp2_with (refine wpList_store_row rfl 24 _ _ rfl w.heap.size _ rfl rfl 24 _ HR2.out (ysize_all _ HSL.out) (by rw [bcs_size, bcs_size, HSL.out, List.length_replicate]) (bcs_one _) ?_)
  refine bodyPost_ret (Yw.results HR2.out.row rfl _ rfl _ Tryd.underlying24 rfl (by rw [HSL.out]; exact size32)) rfl ⟨rfl, below_setRow HB2.out _ _ (Nat.le_refl _)⟩
end Go.Proofs.YtlggbicjgddnaaaDoor
