/- Layer 10: the program's Crash. -/
import Derived.Test.YtapobakolnlpmaaInoE
import Derived.Deep.RegionHeld3
import Derived.Lib.MinMax
namespace Go.Proofs.Ytapobakolnlpmaa
set_option linter.unusedVariables false
open Go.RowKit Go.Lib

theorem Ob.setBelow {w : World} {B : Nat} {e : TypeId} {v : Value} {zs : List Int} (h : Ob w B e v zs) {a : Addr} (ha : a.block < B) (u : Value) : Ob (w.setCell a u) B e v zs := ⟨h.1, ownsRow_setCell_below h.2 ha u⟩

set_option maxRecDepth 100000 in
set_option maxHeartbeats 2000000 in
theorem icrash_any (x : Ni) (r : Option Addr) (l e : Nat) (ch : List Int) (w : World) (h : Ni.fit w x) (ho : x.fi.ok) (hb : Bs w r l ch) (hr : r = none → e = 0) (hle : l ≤ e) (hl : l ≤ 2097152) :
    Calls Try.prog 18 #[x.v, .slice r l e] w fun e w' => ∃ (y : Ni) (v : Value), e = .returned (.tuple #[y.v, v]) ∧ Ni.fit w' y ∧ y.fi = crashP x.fi ch ∧ Ob w' w.heap.size 5 v (restP x.fi ch) ∧ Below w.heap.size w w' := by
  obtain ⟨hn, hm, hzl, hll⟩ := Ni.len h ho
  obtain ⟨p, n, c, q, m, d, zs, L⟩ := x
  have HB0 : Hid (Below w.heap.size w (w.alloc (.cells #[.slice p n c, .slice q m d] 25))) := Lib.hid ((Below.refl _ _).alloc (Nat.le_refl _) _)
  have HB1 : Hid (Below w.heap.size w ((w.alloc (.cells #[.slice p n c, .slice q m d] 25)).alloc (.cells #[.slice none 0 0, .slice none 0 0] 25))) := Lib.hid (HB0.out.alloc HB0.out.size _)
  have HZ1 : Hid (Iw ((w.alloc (.cells #[.slice p n c, .slice q m d] 25)).alloc (.cells #[.slice none 0 0, .slice none 0 0] 25)) (w.heap.size + 1) ni0) := Lib.hid (two_new _ _ _)
  have HI0 : Hid (Iw (w.alloc (.cells #[.slice p n c, .slice q m d] 25)) w.heap.size ⟨p, n, c, q, m, d, zs, L⟩) := Lib.hid (heap_alloc_new _ _)
  have HI1 : Hid (Iw ((w.alloc (.cells #[.slice p n c, .slice q m d] 25)).alloc (.cells #[.slice none 0 0, .slice none 0 0] 25)) w.heap.size ⟨p, n, c, q, m, d, zs, L⟩) := Lib.hid (HI0.out.later ((Below.refl _ _).alloc (Nat.le_refl _) _))
  obtain ⟨wA, hA⟩ : ∃ A, (w.alloc (.cells #[.slice p n c, .slice q m d] 25)).alloc (.cells #[.slice none 0 0, .slice none 0 0] 25) = A := ⟨_, rfl⟩
  have HF := Lib.hid h
  rw [hA] at HB1 HZ1 HI1
  have HSA : Hid (wA.heap.size = w.heap.size + 2) := Lib.hid (by rw [← hA]; simp)
  have HD0 : Hid (Below wA.heap.size wA wA.drew) := Lib.hid ((Below.refl _ _).drew)
  have HK : Hid (∀ W, Below wA.heap.size wA W → W.cell? ⟨w.heap.size, 0, none⟩ = some (.slice p n c) ∧ W.cell? ⟨w.heap.size, 1, none⟩ = some (.slice q m d)) := Lib.hid fun W hW => (HI1.out.later hW).cells
  have HK2 : Hid (∀ W v0 v1, Below wA.heap.size wA W → ((W.setCell ⟨w.heap.size + 1, 0, none⟩ v0).setCell ⟨w.heap.size + 1, 1, none⟩ v1).cell? ⟨w.heap.size, 0, none⟩ = some (.slice p n c) ∧ ((W.setCell ⟨w.heap.size + 1, 0, none⟩ v0).setCell ⟨w.heap.size + 1, 1, none⟩ v1).cell? ⟨w.heap.size, 1, none⟩ = some (.slice q m d)) := Lib.hid fun W v0 v1 hW => by
    have h1 := HK.out W hW
    have hk := stored2_keep W (w.heap.size + 1) v0 v1 w.heap.size (by omega)
    rw [World.cell?_of_block (a := ⟨w.heap.size, 0, none⟩) hk, World.cell?_of_block (a := ⟨w.heap.size, 1, none⟩) hk]
    exact h1
  obtain ⟨i0, i1⟩ := HI1.out.cells
  have k1 := HK.out _ (Below.refl _ _)
  have k0 := HK.out _ HD0.out
  have HBS := Lib.hid hb
  have HNL := Lib.hid hn
  have HM : Hid (m ≤ 1048576) := Lib.hid (Nat.le_succ_of_le hm)
  obtain ⟨K, hK⟩ : ∃ K, min l m = K := ⟨_, rfl⟩
  have hKl : K ≤ l := by omega
  have hmin : min (l : Int) (m : Int) = (K : Int) := by omega
  obtain ⟨p', hsl, hbs', hpn'⟩ := hb.slice_from (P := Try.prog) 22 5 Try.underlying22 (fun _ => by kernel_rfl) e K hle hKl
  have HBS' := Lib.hid hbs'
  have HPN' := Lib.hid (hpn' hr)
  have HRE : Hid (ch.drop K = restP (Ni.fi ⟨p, n, c, q, m, d, zs, L⟩) ch) := Lib.hid (by
    unfold restP Ni.fi
    rw [chs_length, hll, ← hK]
    rcases Nat.le_total l m with h1 | h1
    · rw [Nat.min_eq_left h1, List.drop_of_length_le (by rw [hb.1]; exact Nat.le_refl _), List.drop_of_length_le (by rw [hb.1]; exact h1)]
    · rw [Nat.min_eq_right h1])
  have hLK : l - K ≤ 2097152 := by omega
  have HCP : Hid (crashP (Ni.fi ⟨p, n, c, q, m, d, zs, L⟩) ch = ⟨surP zs (chs L) ch, []⟩) := Lib.hid rfl
  generalize hF : Ni.fi ⟨p, n, c, q, m, d, zs, L⟩ = F at *
  clear h ho hF HB0 HI0 hb hbs' hpn' hK
  unfold Ni.v
  go_enter Try.func18, Try.ntmps18
  go_wp2_with fail
  clear hA
  go_region_held3 (fun W => W.cell? ⟨w.heap.size, 0, none⟩ = some (.slice p n c) ∧ W.cell? ⟨w.heap.size, 1, none⟩ = some (.slice q m d)) (first | exact k0 | exact k1 | exact k2 | exact k3 | exact k4) (first
      | (go_at_call 28; refine (wsurvive_any p n c zs q m d L r l e ch _ (HF.out.1.later (below_step HB1.out HD0.out)) HF.out.2.1 HNL.out (HF.out.2.2.2.1.later (below_step HB1.out HD0.out)) HM.out (HBS.out.later (below_step HB1.out HD0.out)) hl).mono ?_; rintro e2 w2 ⟨v2, rfl, ho2, hb2⟩; obtain ⟨p2, c2, hv2, hlc2, _, hbs2, hpn2⟩ := ho2.open; subst hv2; have HS2 := Lib.hid hbs2; have HP2 := Lib.hid hpn2; have HC2 := Lib.hid hlc2; have HB2 := Lib.hid (below_step HD0.out hb2); have k2 := HK.out _ HB2.out; clear ho2 hb2 hlc2 hbs2 hpn2)
      | (go_at_call 21; refine (wclone_any p' (l - K) (e - K) (ch.drop K) _ (HBS'.out.later (below_step HB1.out HB2.out)) HPN'.out hLK).mono ?_; rintro e3 w3 ⟨v3, rfl, ho3, hb3⟩; have HO3 := Lib.hid ho3; have HB3 := Lib.hid (below_step HB2.out hb3); have HX3 := Lib.hid hb3; have k3 := HK.out _ HB3.out; have k4 := HK2.out w3 (.slice p2 (surP zs (chs L) ch).length c2) (.slice none 0 0) HB3.out; have HZ3 := Lib.hid (HZ1.out.later HB3.out); obtain ⟨z0, z1⟩ := HZ3.out.cells; have f0 := HZ3.out.frozen 0; have f1 := HZ3.out.frozen 1; clear ho3 hb3))
  have HSZ : Hid (w.heap.size + 2 ≤ w2.heap.size) := Lib.hid (by have := HB2.out.size; have := HSA.out; omega)
  have HO4 := Lib.hid ((HO3.out.setBelow (a := ⟨w.heap.size + 1, 0, none⟩) (by have := HSZ.out; show w.heap.size + 1 < _; omega) (.slice p2 (surP zs (chs L) ch).length c2)).setBelow (a := ⟨w.heap.size + 1, 1, none⟩) (by have := HSZ.out; show w.heap.size + 1 < _; omega) (.slice none 0 0))
  go_wp2
  refine bodyPost_ret (Iw.results_tmp (y := ⟨p2, (surP zs (chs L) ch).length, c2, none, 0, 0, surP zs (chs L) ch, []⟩) (cells2_stored HZ3.out _ _) rfl _ rfl) rfl ?_
  refine ⟨_, v3, rfl, ⟨(HS2.out.later HX3.out).stored HZ3.out.sl2 (stored2_keep _ _ _ _), HP2.out, HC2.out, ⟨rfl, by simp, Or.inl rfl⟩, fun _ => rfl, Nat.le_refl _⟩, HCP.out.symm, ?_, ((below_step HB1.out HB3.out).setCell (p := ⟨w.heap.size + 1, 0, none⟩) (Nat.le_succ _) _).setCell (p := ⟨w.heap.size + 1, 1, none⟩) (Nat.le_succ _) _⟩
  rw [← HRE.out]
  exact HO4.out.mono (by have := HSZ.out; omega)
end Go.Proofs.Ytapobakolnlpmaa
