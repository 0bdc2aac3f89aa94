/- Layer 10: the reference's More, Append, Cut, Crash. -/
import Derived.Test.YtapobakolnlpmaaInoI
import Derived.Test.YtapobakolnlpmaaWriN
import Derived.Test.YtapobakolnlpmaaWriO
namespace Go.Proofs.Ytapobakolnlpmaa
set_option linter.unusedVariables false
open Go.RowKit Go.Lib

theorem below_alloc' {w0 w : World} (h : Below w0.heap.size w0 w) (o : Obj) : Below w0.heap.size w0 (w.alloc o) := h.alloc h.size o
theorem below_drew' {w0 w : World} (h : Below w0.heap.size w0 w) : Below w0.heap.size w0 w.drew := below_step h ((Below.refl _ _).drew)

set_option maxRecDepth 100000 in
set_option maxHeartbeats 2000000 in
theorem rmore_any (x : Ni) (u : Wd) (w : World) (h : Ni.fit w x) (ho : x.fi.ok) (hu : Wd.fit w u) :
    Calls Try.prog 22 #[x.v, chV u.c u.p u.n u.cap] w fun e w' => ∃ y : Ni, e = .returned y.v ∧ Ni.fit w' y ∧ y.fi = ⟨x.fi.b, x.fi.l ++ [u.c]⟩ ∧ Below w.heap.size w w' := by
  obtain ⟨hn, hm, hzl, hll⟩ := Ni.len h ho
  obtain ⟨p, n, c, q, m, d, zs, L⟩ := x
  obtain ⟨uc, up, un, ucap⟩ := u
  have HF := Lib.hid h
  have HU := Lib.hid hu
  have HLL := Lib.hid hll
  have hm' : m ≤ 1048575 := hm
  have HM := Lib.hid hm'
  obtain ⟨wA, hA⟩ : ∃ A, ((w.alloc (.cells #[.slice p n c, .slice q m d] 25)).alloc (.cells #[.bool uc.cut, .int .i64 uc.off, .slice up un ucap] 48)).alloc (.cells #[.slice none 0 0, .slice none 0 0] 25) = A := ⟨_, rfl⟩
  have HSA : Hid (wA.heap.size = w.heap.size + 3) := Lib.hid (by rw [← hA]; simp)
  have HBA : Hid (Below w.heap.size w wA) := Lib.hid (by rw [← hA]; exact below_alloc' (below_alloc' (below_alloc' (Below.refl _ _) _) _) _)
  have HI : Hid (Iw wA w.heap.size ⟨p, n, c, q, m, d, zs, L⟩) := Lib.hid (by
    rw [← hA]
    exact Iw.later (Iw.later (heap_alloc_new _ _) (below_alloc' (Below.refl _ _) _)) (below_alloc' (Below.refl _ _) _))
  have HC : Hid (Cw wA (w.heap.size + 1) uc up un ucap) := Lib.hid (by
    rw [← hA]
    exact Cw.keep (two_new _ _ _) ((Below.refl _ _).alloc (by simp) _))
  have HZ : Hid (Iw wA (w.heap.size + 1 + 1) ni0) := Lib.hid (by
    rw [← hA]
    have := heap_alloc_new ((w.alloc (.cells #[.slice p n c, .slice q m d] 25)).alloc (.cells #[.bool uc.cut, .int .i64 uc.off, .slice up un ucap] 48)) (.cells #[.slice none 0 0, .slice none 0 0] 25)
    have e : ((w.alloc (.cells #[.slice p n c, .slice q m d] 25)).alloc (.cells #[.bool uc.cut, .int .i64 uc.off, .slice up un ucap] 48)).heap.size = w.heap.size + 1 + 1 := by simp
    rw [e] at this
    exact this)
  have HFA := Lib.hid (HF.out.later HBA.out)
  have HUA := Lib.hid (HU.out.later HBA.out)
  obtain ⟨i0, i1⟩ := HI.out.cells
  obtain ⟨c0, c1, c2⟩ := HC.out.cells
  unfold Ni.v chV
  have HZL : Hid (([] : List Wd).length + m ≤ 2097152) := Lib.hid (by have := HM.out; simp; omega)
  have HO0 := Lib.hid (Ow.nil wA wA.heap.size)
  clear h ho hu
  go_enter Try.func22, Try.ntmps22
  go_wp2_with (refine wpList_append_wds rfl (.const (.slice none 0 0)) (.tmp 7) 23 rfl Try.underlying23 info48 wA.heap.size _ [] rfl HO0.out (Apart.nil _) q m d L rfl HFA.out.2.2.2.1 (Apart.nil _) HFA.out.2.2.2.2.1 HZL.out (Nat.le_refl _) ?_; intro v2 w2 ho2 hg2; rw [List.nil_append] at ho2; have HO2 := Lib.hid ho2; have HB2 := Lib.hid (below_none hg2); obtain ⟨q2, d2, hv2, hd2, _, _, hp2⟩ := ho2.open; rw [HLL.out] at hv2 hd2; subst hv2; clear ho2 hg2)
  clear hA i0 i1 c0 c1 c2
  have HK : Hid (∀ W, Below wA.heap.size wA W → W.cell? ⟨w.heap.size, 0, none⟩ = some (.slice p n c) ∧ W.cell? ⟨w.heap.size + 1, 0, none⟩ = some (.bool uc.cut) ∧ W.cell? ⟨w.heap.size + 1, 1, none⟩ = some (.int .i64 uc.off) ∧ W.cell? ⟨w.heap.size + 1, 2, none⟩ = some (.slice up un ucap)) := Lib.hid fun W hW => ⟨(HI.out.later hW).cells.1, (HC.out.keep (hW.mono (by have := HSA.out; omega))).cells⟩
  have HK2 : Hid (∀ W v0 v1, Below wA.heap.size wA W → ((W.setCell ⟨w.heap.size + 1 + 1, 0, none⟩ v0).setCell ⟨w.heap.size + 1 + 1, 1, none⟩ v1).cell? ⟨w.heap.size, 0, none⟩ = some (.slice p n c) ∧ ((W.setCell ⟨w.heap.size + 1 + 1, 0, none⟩ v0).setCell ⟨w.heap.size + 1 + 1, 1, none⟩ v1).cell? ⟨w.heap.size + 1, 0, none⟩ = some (.bool uc.cut) ∧ ((W.setCell ⟨w.heap.size + 1 + 1, 0, none⟩ v0).setCell ⟨w.heap.size + 1 + 1, 1, none⟩ v1).cell? ⟨w.heap.size + 1, 1, none⟩ = some (.int .i64 uc.off) ∧ ((W.setCell ⟨w.heap.size + 1 + 1, 0, none⟩ v0).setCell ⟨w.heap.size + 1 + 1, 1, none⟩ v1).cell? ⟨w.heap.size + 1, 2, none⟩ = some (.slice up un ucap)) := Lib.hid fun W v0 v1 hW => by
    have h1 := HK.out W hW
    have hk := stored2_keep W (w.heap.size + 1 + 1) v0 v1 w.heap.size (by omega)
    have hl := stored2_keep W (w.heap.size + 1 + 1) v0 v1 (w.heap.size + 1) (by omega)
    rw [World.cell?_of_block (a := ⟨w.heap.size, 0, none⟩) hk, World.cell?_of_block (a := ⟨w.heap.size + 1, 0, none⟩) hl, World.cell?_of_block (a := ⟨w.heap.size + 1, 1, none⟩) hl, World.cell?_of_block (a := ⟨w.heap.size + 1, 2, none⟩) hl]
    exact h1
  have HD3 := Lib.hid (below_drew' HB2.out)
  have HB3 := Lib.hid (below_alloc' HD3.out (.cells #[.bool uc.cut, .int .i64 uc.off, .slice up un ucap] 48))
  have HO3 := Lib.hid ((HO2.out.later ((Below.refl _ _).drew)).alloc (.cells #[.bool uc.cut, .int .i64 uc.off, .slice up un ucap] 48))
  have HA3 : Hid (Apart (.slice q2 m d2) L) := Lib.hid (apart_of_below HO2.out (Nat.le_refl _) HFA.out.2.2.2.1.2.1)
  have HW3 := Lib.hid (ws_one (w := w2.drew) ⟨uc, up, un, ucap⟩ (HUA.out.later HD3.out))
  have HA4 : Hid (Apart (.slice q2 m d2) [⟨uc, up, un, ucap⟩]) := Lib.hid (apart_of_below HO2.out (Nat.le_refl _) (fun x hx => by obtain rfl := List.mem_singleton.1 hx; exact HUA.out))
  have k0 := HK.out _ HB2.out
  have k1 := HK.out _ HD3.out
  have k2 := HK.out _ HB3.out
  have HPB := Lib.hid HFA.out.1
  go_region_held3 (fun W => W.cell? ⟨w.heap.size, 0, none⟩ = some (.slice p n c) ∧ W.cell? ⟨w.heap.size + 1, 0, none⟩ = some (.bool uc.cut) ∧ W.cell? ⟨w.heap.size + 1, 1, none⟩ = some (.int .i64 uc.off) ∧ W.cell? ⟨w.heap.size + 1, 2, none⟩ = some (.slice up un ucap)) (first | exact k0 | exact k1 | exact k2 | exact k3 | exact k4) (first | (refine step_append_wds rfl (.tmp 11) (.tmp 13) 23 rfl Try.underlying23 info48 wA.heap.size (.slice q2 m d2) L rfl HO3.out HA3.out _ _ _ [⟨uc, up, un, ucap⟩] rfl HW3.out HA4.out (fun h => by cases h) (by rw [HLL.out]; have := HM.out; omega) HB3.out.size ?_; intro v6 w6 ho6 hg6; obtain ⟨q6, d6, hv6, hld6, _, hws6, hpn6⟩ := ho6.open; have hlen6 : (L ++ [(⟨uc, up, un, ucap⟩ : Wd)]).length = m + 1 := (List.length_append.trans (by rw [HLL.out, List.length_singleton])); rw [hlen6] at hv6 hld6 hws6; subst hv6; have HB6 := Lib.hid (below_new_ow HB3.out HO3.out hg6 HB3.out.size); have k3 := HK.out _ HB6.out; have k4 := HK2.out w6 (.slice p n c) (.slice q6 (m + 1) d6) HB6.out; have HZ6 := Lib.hid (HZ.out.later HB6.out); have HW6 := Lib.hid hws6; have HP6 := Lib.hid hpn6; have HD6 := Lib.hid hld6; obtain ⟨z0, z1⟩ := HZ6.out.cells; have f0 := HZ6.out.frozen 0; have f1 := HZ6.out.frozen 1; clear ho6 hg6 hws6 hpn6 hld6 hlen6))
  go_wp2
  refine bodyPost_ret (results_cell_row rfl _ _ (w.heap.size + 1 + 1) 25 _ (0, 0) _ rfl (cells2_stored HZ6.out _ _) Try.underlying25 rfl size25) rfl ?_
  refine ⟨⟨p, n, c, q6, m + 1, d6, zs, L ++ [⟨uc, up, un, ucap⟩]⟩, rfl, ⟨(HPB.out.later HB6.out).stored HZ6.out.sl2 (stored2_keep _ _ _ _), HF.out.2.1, HF.out.2.2.1, HW6.out.stored HZ6.out.sl2 (stored2_keep _ _ _ _), HP6.out, HD6.out⟩, ?_, ((below_step HBA.out HB6.out).setCell (p := ⟨w.heap.size + 1 + 1, 0, none⟩) (Nat.le_trans (Nat.le_succ _) (Nat.le_succ _)) _).setCell (p := ⟨w.heap.size + 1 + 1, 1, none⟩) (Nat.le_trans (Nat.le_succ _) (Nat.le_succ _)) _⟩
  simp [Ni.fi, chs]
end Go.Proofs.Ytapobakolnlpmaa
