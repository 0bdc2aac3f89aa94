/- The reference's sums, slow and quick. -/
import Derived.Test.YtmhijcciblhjbaaDoorShaS4
import Derived.Test.YtmhijcciblhjbaaDoorShaR3
namespace Go.Proofs.YtmhijcciblhjbaaDoor
set_option linter.unusedVariables false
open Go.RowKit Go.Lib

theorem bs_away {w : World} {p : Option Addr} {n b : Nat} {zs : List Int} (h : Bs w p n zs) (hb : w.heap.size ≤ b) : Away p n b := by
  obtain ⟨h1, h2, h3⟩ := h
  by_cases h0 : n = 0
  · exact Or.inl h0
  · rcases h3 with h3 | ⟨g, off, rfl, hc⟩
    · exact Or.inl h3
    · refine Or.inr fun a ha => ?_
      cases ha
      have := World.block_lt_of_cell? w _ (hc 0 (by omega))
      show g ≠ b
      have h4 : g < w.heap.size := this
      omega
theorem ysize_all (l : List Int) (h : l.length = 32) : (Tryd.prog.info? 24).map (·.size) = some (bcs l).size := by rw [bcs_size, h]; exact size32

set_option maxRecDepth 100000 in
theorem rsum_any (p : Option Addr) (len cap : Nat) (zs : List Int) (w : World) (h : Bs w p len zs) (hpc : p = none → cap = 0) (hlen : len ≤ 1048576) :
    Calls Tryd.prog 6 #[.slice p len cap] w fun e w' => e = .returned (.agg (bcs (shaS zs))) ∧ Below w.heap.size w w' := by
  have H := Lib.hid h
  have HPC := Lib.hid hpc
  have HB0 : Hid (Below w.heap.size w (w.alloc (.cells (bcs (List.replicate 32 0)) 24))) := Lib.hid ((Below.refl _ _).alloc (Nat.le_refl _) _)
  have HR0 : Hid (Yw (w.alloc (.cells (bcs (List.replicate 32 0)) 24)) w.heap.size 24 (List.replicate 32 0)) := Lib.hid (heap_alloc_new _ _)
  have HAW : Hid (∀ b, w.heap.size ≤ b → Away p len b) := Lib.hid fun b hb => bs_away h hb
  have HSL : Hid ((shaS zs).length = 32) := Lib.hid (shaS_length zs)
  clear h hpc
  go_enter Tryd.func6, Tryd.ntmps6
  go_wp2_with fail
  refine (constants_any _ (w.heap.size + 1) (w.heap.size + 2) (by simp) (by simp)).mono ?_
  rintro e w1 ⟨rfl, hk, hh, hb1⟩
  have HB1 : Hid (Below w.heap.size w w1) := Lib.hid (below_step HB0.out hb1)
  have HR1 : Hid (Yw w1 w.heap.size 24 (List.replicate 32 0)) := Lib.hid (HR0.out.later hb1)
  have HK : Hid (On .u32 w1 0 37 (.slice (some ⟨w.heap.size + 1, 0, none⟩) 64 64) kS) := Lib.hid (hk.mono (Nat.zero_le _))
  have HH : Hid (On .u32 w1 0 37 (.slice (some ⟨w.heap.size + 2, 0, none⟩) 8 8) hS.list) := Lib.hid (hh.mono (Nat.zero_le _))
  clear hk hh hb1
  go_wp2_with fail
  refine (blocks_any p len cap zs (w.heap.size + 1) 64 (w.heap.size + 2) 8 _ (H.out.later HB1.out) HPC.out hlen HK.out HH.out (by omega) (HAW.out _ (by omega))).mono ?_
  rintro e w2 ⟨rfl, hg2⟩
  have HB2 : Hid (Below w.heap.size w w2) := Lib.hid (HB1.out.grown hg2 HB1.out.size (fun j hj => by cases hj; omega))
  have HR2 : Hid (Yw w2 w.heap.size 24 (List.replicate 32 0)) := Lib.hid (HR1.out.keep (hg2.block _ HR1.out.lt (by simp)))
  clear hg2
  go_wp2_with (refine wpList_store_row rfl 24 _ _ rfl w.heap.size _ rfl rfl 24 _ HR2.out (ysize_all _ HSL.out) (by rw [bcs_size, bcs_size, HSL.out, List.length_replicate]) (bcs_one _) ?_)
  refine bodyPost_ret (Yw.results HR2.out.row rfl _ rfl _ Tryd.underlying24 rfl (by rw [HSL.out]; exact size32)) rfl ⟨rfl, below_setRow HB2.out _ _ (Nat.le_refl _)⟩

set_option maxRecDepth 100000 in
theorem rslow_any (p : Option Addr) (len cap : Nat) (zs : List Int) (w : World) (h : Bs w p len zs) (hpc : p = none → cap = 0) (hlen : len ≤ 1048576) :
    Calls Tryd.prog 5 #[.slice p len cap] w fun e w' => e = .returned (.agg (bcs (shaS zs))) ∧ Below w.heap.size w w' := by
  have H := Lib.hid h
  have HPC := Lib.hid hpc
  have HB0 : Hid (Below w.heap.size w (w.alloc (.cells (bcs (List.replicate 32 0)) 24))) := Lib.hid ((Below.refl _ _).alloc (Nat.le_refl _) _)
  have HR0 : Hid (Yw (w.alloc (.cells (bcs (List.replicate 32 0)) 24)) w.heap.size 24 (List.replicate 32 0)) := Lib.hid (heap_alloc_new _ _)
  have HAW : Hid (∀ b, w.heap.size ≤ b → Away p len b) := Lib.hid fun b hb => bs_away h hb
  have HSL : Hid ((shaS zs).length = 32) := Lib.hid (shaS_length zs)
  have HZ : Hid ((w.alloc (.cells (bcs (List.replicate 32 0)) 24)).heap.size = w.heap.size + 1) := Lib.hid (by simp)
  clear h hpc
  go_enter Tryd.func5, Tryd.ntmps5
  go_wp2_with fail
  refine (fractions_k _).mono ?_
  rintro e w1 ⟨v1, rfl, hk, hb1⟩
  obtain ⟨p1, c1, rfl, _, _, _, _, hg1⟩ := hk.open
  obtain ⟨gk, rfl, hgk, hgk2⟩ := hg1 (by decide)
  have HB1 : Hid (Below w.heap.size w w1) := Lib.hid (below_step HB0.out hb1)
  have HR1 : Hid (Yw w1 w.heap.size 24 (List.replicate 32 0)) := Lib.hid (HR0.out.later hb1)
  have HK1 : Hid (On .u32 w1 0 37 (.slice (some ⟨gk, 0, none⟩) 64 c1) kS) := Lib.hid (hk.mono (Nat.zero_le _))
  have HGK : Hid (w.heap.size < gk ∧ gk < w1.heap.size) := Lib.hid ⟨by simp only [World.size_alloc] at hgk; omega, hgk2⟩
  rw [kS_length]
  clear hk hb1 hg1 hgk hgk2
  go_wp2_with fail
  refine (fractions_h _).mono ?_
  rintro e w2 ⟨v2, rfl, hh, hb2⟩
  obtain ⟨p2, c2, rfl, _, _, _, _, hg2⟩ := hh.open
  obtain ⟨gh, rfl, hgh, hgh2⟩ := hg2 (by decide)
  have HB2 : Hid (Below w.heap.size w w2) := Lib.hid (below_step HB1.out hb2)
  have HR2 : Hid (Yw w2 w.heap.size 24 (List.replicate 32 0)) := Lib.hid (HR1.out.later hb2)
  have HK2 : Hid (On .u32 w2 0 37 (.slice (some ⟨gk, 0, none⟩) 64 c1) kS) := Lib.hid (HK1.out.later hb2)
  have HH2 : Hid (On .u32 w2 0 37 (.slice (some ⟨gh, 0, none⟩) 8 c2) hS.list) := Lib.hid (hh.mono (Nat.zero_le _))
  have HGH : Hid (gk < gh) := Lib.hid (by have := HGK.out.2; omega)
  have h8 : hS.list.length = 8 := rfl
  rw [h8]
  clear hh hb2 hg2 hgh hgh2 h8
  go_wp2_with fail
  refine (blocks_any p len cap zs gk c1 gh c2 _ (H.out.later HB2.out) HPC.out hlen HK2.out HH2.out (by have := HGH.out; omega) (HAW.out _ (by have := HGH.out; have := HGK.out.1; omega))).mono ?_
  rintro e w3 ⟨rfl, hg3⟩
  have HB3 : Hid (Below w.heap.size w w3) := Lib.hid (HB2.out.grown hg3 HB2.out.size (fun j hj => by cases hj; have := HGH.out; have := HGK.out.1; omega))
  have HR3 : Hid (Yw w3 w.heap.size 24 (List.replicate 32 0)) := Lib.hid (HR2.out.keep (hg3.block _ HR2.out.lt (by have := HGH.out; have := HGK.out.1; simp; omega)))
  clear hg3
  go_wp2_with (refine wpList_store_row rfl 24 _ _ rfl w.heap.size _ rfl rfl 24 _ HR3.out (ysize_all _ HSL.out) (by rw [bcs_size, bcs_size, HSL.out, List.length_replicate]) (bcs_one _) ?_)
  refine bodyPost_ret (Yw.results HR3.out.row rfl _ rfl _ Tryd.underlying24 rfl (by rw [HSL.out]; exact size32)) rfl ⟨rfl, below_setRow HB3.out _ _ (Nat.le_refl _)⟩
end Go.Proofs.YtmhijcciblhjbaaDoor
