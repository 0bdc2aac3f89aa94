/- The statement InodeCrash, where what it reads is of bulk at most 1048576: for every file and every choice it answers true and leaves its arguments as they were. -/
import Derived.Test.YtapobakolnlpmaaInoR
import Derived.Test.YtapobakolnlpmaaInoO
import Derived.Test.YtapobakolnlpmaaLaw
namespace Go.Proofs.Ytapobakolnlpmaa
set_option linter.unusedVariables false
open Go.RowKit Go.Lib Go.ChangeShapes Go.WideShapes Go.ChangeAt

set_option maxRecDepth 100000 in
set_option maxHeartbeats 4000000 in
theorem inoCrash_walk (x : Ni) (r : Option Addr) (l e : Nat) (ch : List Int) (w : World) (h : Ni.fit w x) (hx1 : x.fi.b.length ≤ 1048576) (hx2 : x.fi.l.length ≤ 262144) (hx3 : ∀ c ∈ x.fi.l, c.dat.length ≤ 1048576) (hb : Bs w r l ch) (hr : r = none → e = 0) (hle : l ≤ e) (hl : e ≤ 1048576) :
    Calls Try.prog 4 #[x.v, .slice r l e] w fun e w' => e = .returned (.bool true) ∧ Below w.heap.size w w' := by
  have ho : x.fi.ok := ⟨by omega, by omega, fun c hc => by have := hx3 c hc; omega⟩
  have HCO := Lib.hid (crashP_ok ch ho)
  have HRM := Lib.hid (roomP_crash x.fi ch)
  have hl2 : l ≤ 2097152 := by omega
  have HC1 := Lib.hid fun W (h1 : Ni.fit W x) (h2 : Bs W r l ch) => icrash_any x r l e ch W h1 ho h2 hr hle hl2
  have HC2 := Lib.hid fun W (h1 : Ni.fit W x) (h2 : Bs W r l ch) => rcrash_ino x r l e ch W h1 ho h2 hr hle hl2
  have HRX := Lib.hid fun W (h1 : Ni.fit W x) => iroom_any x W h1 ho
  obtain ⟨p, n, c, q, m, d, zs, L⟩ := x
  have HF := Lib.hid h
  have HS := Lib.hid hb
  generalize hF : Ni.fi ⟨p, n, c, q, m, d, zs, L⟩ = F at *
  obtain ⟨rx, hrx⟩ : ∃ z, roomP F = z := ⟨_, rfl⟩
  rw [hrx] at HRX HRM
  obtain ⟨ry, hry⟩ : ∃ z, roomP (crashP F ch) = z := ⟨_, rfl⟩
  rw [hry] at HRM
  have HRY := Lib.hid hry
  have hrl : ry ≤ rx := HRM.out
  generalize restP F ch = RS at *
  generalize crashP F ch = FC at *
  clear h ho hx1 hx2 hx3 hb hF hrx hry HRM
  unfold Ni.v at HC1 HC2 HRX ⊢
  dsimp only at HC1 HC2 HRX ⊢
  obtain ⟨wA, hA⟩ : ∃ A, w.alloc (.cells #[.slice p n c, .slice q m d] 25) = A := ⟨_, rfl⟩
  have HBA : Hid (Below w.heap.size w wA) := Lib.hid (by rw [← hA]; exact below_alloc' (Below.refl _ _) _)
  have HI : Hid (Iw wA w.heap.size ⟨p, n, c, q, m, d, zs, L⟩) := Lib.hid (by rw [← hA]; exact heap_alloc_new _ _)
  have HFA := Lib.hid (HF.out.later HBA.out)
  have HSA := Lib.hid (HS.out.later HBA.out)
  obtain ⟨i0, i1⟩ := HI.out.cells
  go_enter Try.func4, Try.ntmps4
  go_wp2_with fail
  clear hA
  refine (HC1.out _ HFA.out HSA.out).mono ?_
  rintro e2 w2 ⟨⟨yp, yn, yc, yq, ym, yd, yz, yL⟩, v2, rfl, hf2, hy2, ho2, hb2⟩
  obtain ⟨p2, c2, hv2, _, hcm2, hbs2, _⟩ := ho2.open
  subst hv2
  obtain ⟨w3, hw3⟩ : ∃ W, w2.alloc (.cells #[.slice yp yn yc, .slice yq ym yd] 25) = W := ⟨_, rfl⟩
  obtain ⟨G, hG⟩ : ∃ G, w2.heap.size = G := ⟨_, rfl⟩
  have hx3 : Below w2.heap.size w2 w3 := by rw [← hw3]; exact below_alloc' (Below.refl _ _) _
  have HYF : Hid (Ni.fi ⟨yp, yn, yc, yq, ym, yd, yz, yL⟩ = FC) := Lib.hid hy2
  have HR3 := Lib.hid (hbs2.later hx3)
  have HRL : Hid (RS.length ≤ maxLen) := Lib.hid (by omega)
  have HX3 := Lib.hid (below_step hb2 hx3)
  have HB3 := Lib.hid (below_step HBA.out HX3.out)
  have HF3 := Lib.hid (HFA.out.later HX3.out)
  have HS3 := Lib.hid (HSA.out.later HX3.out)
  have HI3 := Lib.hid (HI.out.later HX3.out)
  have HY3 : Hid (Ni.fit w3 ⟨yp, yn, yc, yq, ym, yd, yz, yL⟩) := Lib.hid (hf2.later hx3)
  have HG3 : Hid (Iw w3 G ⟨yp, yn, yc, yq, ym, yd, yz, yL⟩) := Lib.hid (by rw [← hw3, ← hG]; exact heap_alloc_new _ _)
  clear hf2 hy2 ho2 hb2 hbs2 i0 i1 hx3 HC1 HI HFA HSA HBA HX3
  obtain ⟨i0, i1⟩ := HI3.out.cells
  go_wp2_with fail
  clear hw3 hG
  refine (HC2.out _ HF3.out HS3.out).mono ?_
  rintro e4 w4 ⟨⟨zp, zn, zc, zq, zm, zd, zz, zL⟩, p4, n4, c4, rfl, hf4, hy4, hbs4, hn4, hb4⟩
  obtain ⟨w5, hw5⟩ : ∃ W, w4.alloc (.cells #[.slice zp zn zc, .slice zq zm zd] 25) = W := ⟨_, rfl⟩
  obtain ⟨G5, hG5⟩ : ∃ G, w4.heap.size = G := ⟨_, rfl⟩
  have hx5 : Below w4.heap.size w4 w5 := by rw [← hw5]; exact below_alloc' (Below.refl _ _) _
  have HZF : Hid (Ni.fi ⟨zp, zn, zc, zq, zm, zd, zz, zL⟩ = FC) := Lib.hid hy4
  have HT5 := Lib.hid (hbs4.later hx5)
  have HX5 := Lib.hid (below_step hb4 hx5)
  have HB5 := Lib.hid (below_step HB3.out HX5.out)
  have HF5 := Lib.hid (HF3.out.later HX5.out)
  have HI5 := Lib.hid (HI3.out.later HX5.out)
  have HY5 := Lib.hid (HY3.out.later HX5.out)
  have HG5 := Lib.hid (HG3.out.later HX5.out)
  have HR5 := Lib.hid (HR3.out.later HX5.out)
  have HZ5 : Hid (Ni.fit w5 ⟨zp, zn, zc, zq, zm, zd, zz, zL⟩) := Lib.hid (hf4.later hx5)
  have HH5 : Hid (Iw w5 G5 ⟨zp, zn, zc, zq, zm, zd, zz, zL⟩) := Lib.hid (by rw [← hw5, ← hG5]; exact heap_alloc_new _ _)
  have HN4 : Hid (n4 ≤ maxLen) := Lib.hid (by unfold maxLen; omega)
  clear hf4 hy4 hb4 hbs4 i0 i1 hx5 HC2 HI3 HF3 HS3 HY3 HG3 HR3 HX5 HB3
  have hn4' := HT5.out.1
  subst hn4'
  obtain ⟨i0, i1⟩ := HI5.out.cells
  obtain ⟨j0, j1⟩ := HG5.out.cells
  obtain ⟨k0, k1⟩ := HH5.out.cells
  go_wp2_with fail
  clear hw5 hG5
  have HK : Hid (∀ W, Below w5.heap.size w5 W → W.cell? ⟨w.heap.size, 0, none⟩ = some (.slice p n c) ∧ W.cell? ⟨w.heap.size, 1, none⟩ = some (.slice q m d) ∧ W.cell? ⟨G, 0, none⟩ = some (.slice yp yn yc) ∧ W.cell? ⟨G, 1, none⟩ = some (.slice yq ym yd) ∧ W.cell? ⟨G5, 0, none⟩ = some (.slice zp zn zc) ∧ W.cell? ⟨G5, 1, none⟩ = some (.slice zq zm zd)) := Lib.hid fun W hW => ⟨(HI5.out.later hW).cells.1, (HI5.out.later hW).cells.2, (HG5.out.later hW).cells.1, (HG5.out.later hW).cells.2, (HH5.out.later hW).cells.1, (HH5.out.later hW).cells.2⟩
  have HD0 := Lib.hid (below_drew' (Below.refl w5.heap.size w5))
  have s0 := HK.out _ (Below.refl _ _)
  have s1 := HK.out _ HD0.out
  have HSM := Lib.hid fun W (hW : Below w5.heap.size w5 W) => rsame_ino _ _ W (HY5.out.later hW) (HZ5.out.later hW) (by rw [HYF.out]; exact HCO.out) (HZF.out.trans HYF.out.symm)
  have HRM := Lib.hid fun W (hW : Below w5.heap.size w5 W) => iroom_any _ W (HY5.out.later hW) (by rw [HYF.out]; exact HCO.out)
  rw [HYF.out, HRY.out] at HRM
  unfold Ni.v at HSM HRM
  dsimp only at HSM HRM
  go_region_held3 (fun W => W.cell? ⟨w.heap.size, 0, none⟩ = some (.slice p n c) ∧ W.cell? ⟨w.heap.size, 1, none⟩ = some (.slice q m d) ∧ W.cell? ⟨G, 0, none⟩ = some (.slice yp yn yc) ∧ W.cell? ⟨G, 1, none⟩ = some (.slice yq ym yd) ∧ W.cell? ⟨G5, 0, none⟩ = some (.slice zp zn zc) ∧ W.cell? ⟨G5, 1, none⟩ = some (.slice zq zm zd)) (first | exact s0 | exact s1 | exact s2 | exact s3 | exact s4 | exact s5 | exact s6) (first
    | (go_at_call 8; refine (HSM.out _ HD0.out).mono ?_; rintro e6 w6 ⟨rfl, hb6⟩; have HB6 := Lib.hid (below_step HD0.out hb6); have s2 := HK.out _ HB6.out; clear hb6)
    | (go_at_call 12; refine (same_any p2 p4 _ _ c2 c4 RS RS _ HRL.out HN4.out (HR5.out.later HB6.out) (HT5.out.later HB6.out)).mono ?_; rintro e7 w7 ⟨rfl, nq, rfl⟩; rw [decide_eq_true (rfl : RS = RS)]; have HB7 := Lib.hid (below_drewN HB6.out nq); generalize w6.drewN nq = w7 at *; have s3 := HK.out _ HB7.out)
    | (go_at_call 15; (fail_if_success (have hh := HB8.out)); refine (HRM.out _ HB7.out).mono ?_; rintro e8 w8 ⟨rfl, hb8⟩; have HB8 := Lib.hid (below_step HB7.out hb8); have s4 := HK.out _ HB8.out; clear hb8)
    | (go_at_call 15; refine (HRX.out _ (HF5.out.later HB8.out)).mono ?_; rintro e9 w9 ⟨rfl, hb9⟩; have HB9 := Lib.hid (below_step HB8.out hb9); have s5 := HK.out _ HB9.out; clear hb9)
    | (go_at_call 17; refine (ilives_any _).mono ?_; rintro e10 w10 ⟨rfl, hb10⟩; have HB10 := Lib.hid (below_step HB9.out hb10); have s6 := HK.out _ HB10.out; clear hb10))
  go_wp2
  go_ret
  exact ⟨rfl, below_step HB5.out HB10.out⟩
theorem inodeCrash_contract (H : Type) (enc : TypeId × Value → H) (W : World) (base : Nat) (args : Array Value) (ds gs : List (DataW H)) (before : List MemPlace)
    (hval : ∀ (j : Nat) t v, Try.f4.params[j]? = some t → args[j]? = some v → Value.okWide Try.prog W .any base t v)
    (hW : DataW.Whole enc Try.prog Try.f4.params.toList Rows.inodeCrashSpec.vars false W args.toList ds gs before) (hk : Rows.uptoSmall H (ds ++ gs) = true) :
    Calls Try.prog 4 args W fun e W' => ∃ v, e = .returned v ∧ Rows.inodeCrashSpec.post enc Try.prog Try.f4 false true false false W args v W' := by
  have hW' := hW
  obtain ⟨p, q, hA0, hV, rfl, hfz, hnd⟩ := hW
  have hA : DataW.TrodAll enc Try.prog W 0 (fun _ => true) true Try.f4.params.toList args.toList ds p := hA0
  rw [Try.params4] at hA hval
  obtain ⟨v0, vs0, d0, ds0, p0, q0, hargs, rfl, rfl, t0, r0⟩ := trodAll_cons hA
  obtain ⟨v1, vs1, d1, ds1, p1, q1, rfl, rfl, rfl, t1, r1⟩ := trodAll_cons r0
  obtain ⟨rfl, rfl, rfl⟩ := trodAll_nil r1
  obtain rfl : args = #[v0, v1] := by cases args; simp_all
  obtain ⟨rfl, rfl⟩ := trodVars_none hV
  have hk0 := of_decide_eq_true hk
  simp only [Rows.uptoBulkAll, List.append_nil] at hk0
  obtain ⟨x0, rfl, hf0, hxa0, hxb0, hxc0⟩ := open_ino (hval 0 25 v0 rfl rfl) t0 (by omega)
  obtain ⟨a1, len1, cap1, rfl⟩ := okWide_slice Try.underlying22 (hval 1 22 v1 rfl rfl)
  obtain ⟨fuel1, t1⟩ := t1
  obtain ⟨hlc1, hcm1, hpc1, hb1, zs1, hbs1⟩ := open_bs Try.underlying22 Try.underlying5 (by kernel_rfl) t1
  have hk' := of_decide_eq_true hk
  simp only [Rows.uptoBulkAll, List.append_nil, hb1] at hk'
  refine (inoCrash_walk  x0 a1 len1 cap1 zs1 W hf0 hxa0 hxb0 hxc0 hbs1 hpc1 hlc1 (by omega)).mono fun e W' ⟨he, hb⟩ => ?_
  subst he
  exact ⟨_, rfl, law_post laidOut (by kernel_rfl) rfl Try.underlying4 rfl hW' rfl rfl rfl hb⟩

set_option maxRecDepth 100000 in
theorem inodeCrash_lifted (os : Os) (started : os.Started) (H : Type) (enc : TypeId × Value → H) (F : Stop.Interp) :
    ReturnsInHanded {} Try.checked os 4 .any ((Rows.OpenSpec.upto Rows.inodeCrashSpec).pre6 enc Try.prog Try.f4 Rows.inodeCrashUptoRow.domain false) (((Rows.OpenSpec.upto Rows.inodeCrashSpec).at F).post enc Try.prog Try.f4 false true false false) := by
  refine returnsInHanded_of_cond (C := Try.checked) (s := Rows.OpenSpec.upto Rows.inodeCrashSpec) (k := Rows.uptoSmall) rfl own started (by kernel_rfl) Try.func4
    (OpenSpec.witness (enc := enc) (C := Try.checked) (s := Rows.OpenSpec.upto Rows.inodeCrashSpec) (k := Rows.uptoSmall) rfl false ⟨#[], #[.agg #[.slice none 0 0, .slice none 0 0], .slice none 0 0], []⟩ 8 (by kernel_rfl) (by kernel_rfl) (by kernel_rfl)
      (x := ([.agg [.nil, .nil], .nil], [], [])) (by kernel_rfl) rfl (by kernel_rfl)) ?_
  intro W base args ds gs before hval hW _ hk _
  exact inodeCrash_contract H enc W base args ds gs before hval hW hk

theorem inodeCrashUpto_holds : Rows.InodeCrashUptoSaid :=
  OpenClaim.holds_of_cond 4 Try.f4 rfl rfl rfl rfl rfl rfl rfl ⟨rfl, rfl, rfl, rfl, rfl⟩ rfl rfl rfl rfl rfl (by kernel_rfl) Try.func4 (by kernel_rfl)
    (of_decide_eq_true (by kernel_rfl)) (by unfold Func.isWrapper; first | (rw [if_pos (by decide +kernel)]; kernel_rfl) | (rw [if_neg (by decide +kernel)]; exact ⟨rfl, rfl⟩))
    (fun os started H enc _ F => inodeCrash_lifted os started H enc F)
end Go.Proofs.Ytapobakolnlpmaa
