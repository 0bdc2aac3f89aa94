/- Layer 11: what all its laws share: a file that was created has its name. -/
import Derived.Test.YtebkpjnnmlccmaaFolU
import Derived.Test.YtebkpjnnmlccmaaFolW
namespace Go.Proofs.Ytebkpjnnmlccmaa
set_option linter.unusedVariables false
open Go.RowKit Go.Lib Go.Maps

def cA : Cg := ⟨1, ⟨#[97]⟩, ⟨#[]⟩, 7⟩
def fdA : Fd := ⟨[], [cA]⟩
theorem fd0_ok : fo0.fd.ok := ⟨fun x hx => (by cases hx), fun x hx => (by cases hx), by decide⟩
theorem cA_ok : cA.ok := ⟨by unfold InI cA; decide, by decide, by decide, by unfold InI cA; decide⟩
theorem fdA_ok : fdA.ok := ⟨fun x hx => (by cases hx), fun x hx => (by obtain rfl := List.mem_singleton.1 hx; exact cA_ok), by decide⟩
theorem diskA : diskP (numsOf ⟨#[97]⟩) = true := by decide
theorem errA : errP diskP fo0.fd cA = 0 := by
  unfold errP cA
  rw [diskA]
  rfl
theorem doA : doP diskP fo0.fd cA = fdA := by unfold doP; rw [errA]; rfl
theorem findA : findP (nowP fdA) ⟨#[97]⟩ = some 7 := rfl
theorem crashA : crashP fdA (0 : Int).toNat = ⟨[], []⟩ := rfl
theorem syncA : syncP fdA = ⟨[⟨⟨#[97]⟩, 7⟩], []⟩ := rfl

theorem field0 (p : Option Addr) (n c : Nat) (v1 : Value) (w : World) : (Instr.field 25 (.agg #[.slice p n c, v1]) 0).run Try.prog w = .ok (.slice p n c) w := by kernel_rfl
set_option maxRecDepth 100000 in
set_option maxHeartbeats 2000000 in
theorem flives_any (w : World) : Calls Try.prog 14 #[] w fun e w' => e = .returned (.bool true) ∧ Below w.heap.size w w' := by
  have hdo := fdo_any fo0 cA w (fo0_fit _) fd0_ok cA_ok
  rw [errA, doA] at hdo
  unfold Fo.v Cg.v fo0 cA at hdo
  dsimp only at hdo
  have HDO := Lib.hid hdo
  have hsA : (⟨#[97]⟩ : ByteArray).size ≤ 1048576 := by decide
  have HSA := Lib.hid hsA
  clear hdo hsA
  go_enter Try.func14, Try.ntmps14
  go_wp2_with fail
  refine HDO.out.mono ?_
  rintro e2 w2 ⟨⟨p, l, c, q, m, d, L, M⟩, rfl, hf2, hy2, hb2⟩
  obtain ⟨G, hG⟩ : ∃ G, w2.heap.size = G := ⟨_, rfl⟩
  obtain ⟨w3, hw3⟩ : ∃ W, w2.alloc (.cells #[.slice p l c, .slice q m d] 25) = W := ⟨_, rfl⟩
  have HB3 : Hid (Below w.heap.size w w3) := Lib.hid (by rw [← hw3]; exact below_alloc' hb2 _)
  have HF3 : Hid (Fo.fit w3 ⟨p, l, c, q, m, d, L, M⟩) := Lib.hid (by rw [← hw3]; exact hf2.later (below_alloc' (Below.refl _ _) _))
  have HI3 : Hid (Fw w3 G ⟨p, l, c, q, m, d, L, M⟩) := Lib.hid (by rw [← hw3, ← hG]; exact heap_alloc_new _ _)
  have HFI := Lib.hid fun W hW => ffind_any ⟨p, l, c, q, m, d, L, M⟩ ⟨#[97]⟩ W hW (by rw [hy2]; exact fdA_ok) HSA.out
  have HCR := Lib.hid fun W hW => fcrash_any ⟨p, l, c, q, m, d, L, M⟩ 0 W hW (by rw [hy2]; exact fdA_ok) (by unfold InI; omega)
  have HSY := Lib.hid fun W hW => fsync_any ⟨p, l, c, q, m, d, L, M⟩ W hW (by rw [hy2]; exact fdA_ok)
  rw [hy2, findA] at HFI
  rw [hy2, crashA] at HCR
  rw [hy2, syncA] at HSY
  unfold fndV at HFI
  unfold Fo.v at HFI HCR HSY
  dsimp only [Option.getD_some, Option.isSome_some] at HFI HCR HSY
  have hfd := field0
  obtain ⟨i0, i1⟩ := HI3.out.cells
  clear hf2 hy2 hb2 HDO
  go_wp2_with (first
    | (go_at_call 8; refine (HFI.out _ HF3.out).mono ?_; rintro e w4 ⟨rfl, hb4⟩; have HI4 := Lib.hid (HI3.out.later hb4); have HF4 := Lib.hid (HF3.out.later hb4); have HB4 := Lib.hid (below_step HB3.out hb4); clear i0 i1; obtain ⟨i0, i1⟩ := HI4.out.cells; clear hw3 hG hb4)
    | (go_at_call 15; refine (HCR.out _ HF4.out).mono ?_; rintro e w5 ⟨⟨yp, yn, yc, yq, ym, yd, yL, yM⟩, rfl, hf5, hy5, hb5⟩; have hy5' := congrArg Fd.l hy5; have hln := hf5.1.len; dsimp only [Fo.fd] at hy5'; rw [hy5'] at hln; obtain rfl : yn = 0 := hln.symm; have HI5 := Lib.hid (HI4.out.later hb5); have HF5 := Lib.hid (HF4.out.later hb5); have HB5 := Lib.hid (below_step HB4.out hb5); clear i0 i1; obtain ⟨i0, i1⟩ := HI5.out.cells; clear hf5 hy5 hb5 hy5' hln)
    | (go_at_call 20; refine (HSY.out _ HF5.out).mono ?_; rintro e w6 ⟨⟨zp, zn, zc, zq, zm, zd, zL, zM⟩, rfl, hf6, hy6, hb6⟩; have hy6' := congrArg Fd.l hy6; have hln := hf6.1.len; dsimp only [Fo.fd] at hy6'; rw [hy6'] at hln; obtain rfl : zn = 1 := hln.symm; have HB6 := Lib.hid (below_step HB5.out hb6); clear hf6 hy6 hb6 hy6' hln))
  go_ret
  exact ⟨rfl, HB6.out⟩
end Go.Proofs.Ytebkpjnnmlccmaa
