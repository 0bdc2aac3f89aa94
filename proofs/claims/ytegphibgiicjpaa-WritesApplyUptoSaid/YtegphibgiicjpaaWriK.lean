/- Layer 9: the program's Apply, All, Survive, Peak. -/
import Derived.Test.YtegphibgiicjpaaWriJ
import Derived.Deep.RegionHeld3
namespace Go.Proofs.Ytegphibgiicjpaa
set_option linter.unusedVariables false
open Go.RowKit Go.Lib

set_option maxRecDepth 100000 in
set_option maxHeartbeats 1000000 in
theorem wapply_any (q : Option Addr) (l cp : Nat) (zs : List Int) (c : Ch) (p : Option Addr) (n cap : Nat) (w : World) (hz : Bs w q l zs) (hq : q = none → cp = 0) (hl : l ≤ 2097152) (h : chIn w c p n cap) :
    Calls Try.prog 9 #[.slice q l cp, chV c p n cap] w fun e w' => ∃ v, e = .returned v ∧ Ob w' w.heap.size 5 v (appP zs c c.dat.length) ∧ Below w.heap.size w w' := by
  have HB0 : Hid (Below w.heap.size w (w.alloc (.cells #[.bool c.cut, .int .i64 c.off, .slice p n cap] 26)).drew) := Lib.hid (below_step ((Below.refl _ _).alloc (Nat.le_refl _) _) ((Below.refl _ _).drew))
  have HC0 : Hid (Cw (w.alloc (.cells #[.bool c.cut, .int .i64 c.off, .slice p n cap] 26)) w.heap.size c p n cap) := Lib.hid (heap_alloc_new _ _)
  have HC1 : Hid (Cw (w.alloc (.cells #[.bool c.cut, .int .i64 c.off, .slice p n cap] 26)).drew w.heap.size c p n cap) := Lib.hid (HC0.out.keep ((Below.refl _ _).drew))
  have HS1 : Hid (w.heap.size + 1 ≤ (w.alloc (.cells #[.bool c.cut, .int .i64 c.off, .slice p n cap] 26)).drew.heap.size) := Lib.hid (Nat.le_of_eq (by simp [World.drew]))
  have H := Lib.hid h
  have HZ := Lib.hid hz
  have HQ := Lib.hid hq
  have HL := Lib.hid hl
  have HZL := Lib.hid hz.1
  have k0 := HC0.out.cells
  have k1 := HC1.out.cells
  clear h hz hq
  unfold chV
  go_enter Try.func9, Try.ntmps9
  go_wp2
  go_region_held3 (fun W => W.cell? ⟨w.heap.size, 0, none⟩ = some (.bool c.cut) ∧ W.cell? ⟨w.heap.size, 1, none⟩ = some (.int .i64 c.off) ∧ W.cell? ⟨w.heap.size, 2, none⟩ = some (.slice p n cap)) (first | exact k0 | exact k1 | exact k2 | exact k3) (first
    | (go_at_call 19; refine (wclone_any q l cp zs _ (HZ.out.later HB0.out) HQ.out HL.out).mono ?_; rintro e w2 ⟨v2, rfl, ho2, hb2⟩; have HO2 := Lib.hid ho2; have HB2 := Lib.hid hb2; have k2 := (HC1.out.keep (hb2.mono HS1.out)).cells; clear ho2 hb2)
    | (go_at_call 18; refine (wchange_any _ v2 zs c p n cap _ HB2.out HO2.out (H.out.later HB0.out) (by rw [HZL.out]; exact HL.out)).mono ?_; rintro e w3 ⟨v3, rfl, ho3, hb3⟩; have HO3 := Lib.hid (ho3.mono HB0.out.size); have HB3 := Lib.hid (below_step HB0.out hb3); have k3 := (HC1.out.keep (hb3.mono HS1.out)).cells; clear ho3 hb3))
  go_wp2
  go_ret
  exact ⟨_, rfl, HO3.out, HB3.out⟩
end Go.Proofs.Ytegphibgiicjpaa
