/- Layer 11, the program: slices.Clone, Find, fault; Layer 11, the program: fault -/
import Derived.Test.YtncbgddgkpaoeaaGreatDd3
import Derived.Test.YtncbgddgkpaoeaaGreatDd20
import Derived.Test.YtncbgddgkpaoeaaGreatDd26
import Derived.Lib.SliceRun
import Derived.Laws.ResultCell
set_option linter.unusedSimpArgs false
set_option linter.unusedVariables false
namespace Go.Proofs.YtncbgddgkpaoeaaGreat
set_option linter.unusedVariables false
open Go.RowKit Go.Lib Go.Maps

set_option maxRecDepth 100000 in
theorem cloneN_any (p : Option Addr) (n c : Nat) (L : List Nd) (w : World) (h : Gs encN w p n L) (hpc : p = none → c = 0) (hnc : n ≤ c) (hn : n ≤ 1048576) :
    Calls Tryz.prog 111 #[.slice p n c] w fun e w' => ∃ p' c', e = .returned (.slice p' n c') ∧ Gw encN w' w.heap.size (.slice p' n c') L ∧ (p' = none → c' = 0) ∧ n ≤ c' ∧ Below w.heap.size w w' := by
  have H := Lib.hid h
  have HB0 : Hid (Below w.heap.size w (w.alloc (.cells #[] 75))) := Lib.hid ((Below.refl _ _).alloc (Nat.le_refl _) _)
  have HO0 := Lib.hid (Gw.empty encN w w.heap.size (Nat.le_refl _))
  have hq : ∀ (w : World) (a : Option Addr) (n c n' c' : Nat), (binOp .eql 61 (.slice a n c) (.slice none n' c')).run Tryz.prog w = .ok (.bool a.isNone) w := fun w a n c n' c' => Lib.run_eql_slice_nil w _ _ a n c n' c' Tryz.underlying61
  cases p with
  | none =>
    obtain rfl := hpc rfl
    obtain rfl : n = 0 := by omega
    obtain rfl : L = [] := List.length_eq_zero_iff.1 h.1
    clear h hpc
    go_enter Tryz.func111, Tryz.ntmps111
    go_wp2
    go_ret
    exact ⟨none, 0, rfl, Gw.nil _ _ _, fun _ => rfl, Nat.le_refl _, Below.refl _ _⟩
  | some ad =>
    have HD := Lib.hid (h.later HB0.out)
    have HZ : Hid (([] : List Nd).length + n ≤ 2097152) := Lib.hid (by simp; omega)
    clear h hpc hnc hn
    go_enter Tryz.func111, Tryz.ntmps111
    go_wp2_with (refine wpList_append_gen encN rfl (.tmp 5) (.tmp 6) 61 rfl Tryz.underlying61 nzero 24 infoN rfl (by decide) w.heap.size _ [] rfl HO0.out _ n c L rfl HD.out (fun h => by cases h) HZ.out HB0.out.size ?_; intro v5 w5 ho5 hg5; have HO5 := Lib.hid ho5; have HB5 : Hid (Below w.heap.size w w5) := Lib.hid (below_new_gw HB0.out HO0.out hg5 HB0.out.size); clear ho5 hg5)
    go_ret
    have ho := HO5.out
    rw [List.nil_append] at ho
    obtain ⟨p', c', hv, hlc, _, _, hpn⟩ := ho.open
    have hl := H.out.1
    rw [hl] at hv hlc
    subst hv
    exact ⟨p', c', rfl, ho, hpn, hlc, HB5.out⟩

set_option maxRecDepth 100000 in
theorem cloneC_any (p : Option Addr) (n c : Nat) (L : List Cg) (w : World) (h : Gs encC w p n L) (hpc : p = none → c = 0) (hnc : n ≤ c) (hn : n ≤ 1048576) :
    Calls Tryz.prog 112 #[.slice p n c] w fun e w' => ∃ p' c', e = .returned (.slice p' n c') ∧ Gw encC w' w.heap.size (.slice p' n c') L ∧ (p' = none → c' = 0) ∧ n ≤ c' ∧ Below w.heap.size w w' := by
  have H := Lib.hid h
  have HB0 : Hid (Below w.heap.size w (w.alloc (.cells #[] 106))) := Lib.hid ((Below.refl _ _).alloc (Nat.le_refl _) _)
  have HO0 := Lib.hid (Gw.empty encC w w.heap.size (Nat.le_refl _))
  have hq : ∀ (w : World) (a : Option Addr) (n c n' c' : Nat), (binOp .eql 62 (.slice a n c) (.slice none n' c')).run Tryz.prog w = .ok (.bool a.isNone) w := fun w a n c n' c' => Lib.run_eql_slice_nil w _ _ a n c n' c' Tryz.underlying62
  cases p with
  | none =>
    obtain rfl := hpc rfl
    obtain rfl : n = 0 := by omega
    obtain rfl : L = [] := List.length_eq_zero_iff.1 h.1
    clear h hpc
    go_enter Tryz.func112, Tryz.ntmps112
    go_wp2
    go_ret
    exact ⟨none, 0, rfl, Gw.nil _ _ _, fun _ => rfl, Nat.le_refl _, Below.refl _ _⟩
  | some ad =>
    have HD := Lib.hid (h.later HB0.out)
    have HZ : Hid (([] : List Cg).length + n ≤ 2097152) := Lib.hid (by simp; omega)
    clear h hpc hnc hn
    go_enter Tryz.func112, Tryz.ntmps112
    go_wp2_with (refine wpList_append_gen encC rfl (.tmp 5) (.tmp 6) 62 rfl Tryz.underlying62 czero 48 infoC rfl (by decide) w.heap.size _ [] rfl HO0.out _ n c L rfl HD.out (fun h => by cases h) HZ.out HB0.out.size ?_; intro v5 w5 ho5 hg5; have HO5 := Lib.hid ho5; have HB5 : Hid (Below w.heap.size w w5) := Lib.hid (below_new_gw HB0.out HO0.out hg5 HB0.out.size); clear ho5 hg5)
    go_ret
    have ho := HO5.out
    rw [List.nil_append] at ho
    obtain ⟨p', c', hv, hlc, _, _, hpn⟩ := ho.open
    have hl := H.out.1
    rw [hl] at hv hlc
    subst hv
    exact ⟨p', c', rfl, ho, hpn, hlc, HB5.out⟩

/-- what the map behind all changes says is what the row behind them says -/
theorem aft_now {F : Fd} {n : Nat} (h : F.p.length ≤ n) : aftF F n = findP (nowQ F) := by rw [← (beh_both F n).2, behP_all h]

set_option maxRecDepth 100000 in
set_option maxHeartbeats 2000000 in
theorem ffind_any (x : Fo) (s : ByteArray) (w : World) (h : Fo.fit w x) (ho : x.fd.ok) (hs : s.size ≤ 1048576) :
    Calls Tryz.prog 87 #[x.v, .string s] w fun e w' => e = .returned (fndV (findP (nowQ x.fd) s)) ∧ Below w.heap.size w w' := by
  obtain ⟨hnm, hll, hml⟩ := Fo.len h ho
  have HAFT := Lib.hid fun W hW => after_any x (x.m : Int) W hW ho (by unfold InI; omega)
  have HNOW : Hid (aftF x.fd ((x.m : Int)).toNat = findP (nowQ x.fd)) := Lib.hid (aft_now (by show x.M.length ≤ _; rw [hml, Int.toNat_natCast]; exact Nat.le_refl _))
  obtain ⟨p, l, c, q, m, d, L, M⟩ := x
  dsimp only at hnm hll hml
  generalize Fo.fd ⟨p, l, c, q, m, d, L, M⟩ = F at *
  have HF := Lib.hid h
  unfold Fo.v at HAFT ⊢
  dsimp only at HAFT HNOW ⊢
  have HB0 : Hid (Below w.heap.size w (w.alloc (.cells #[.slice p l c, .slice q m d] 64))) := Lib.hid (below_allocF (Below.refl _ _) _)
  clear h ho hll hml hnm
  go_enter Tryz.func87, Tryz.ntmps87
  go_wp2_with (first
    | (go_at_call 80; refine (HAFT.out _ (HF.out.later HB0.out)).mono ?_; rintro e w2 ⟨b, rfl, hb, hm2, hb2⟩; have HM2 := Lib.hid hm2; have HB2 := Lib.hid (below_step HB0.out hb2); clear hb hm2 hb2)
    | (at_lookup; refine wpList_look rfl _ _ rfl b 1048576 _ s rfl HM2.out rfl hs ?_; rw [HNOW.out]))
  go_ret2
  exact ⟨rfl, HB2.out⟩
end Go.Proofs.YtncbgddgkpaoeaaGreat

namespace Go.Proofs.YtncbgddgkpaoeaaGreat
set_option linter.unusedVariables false
open Go.RowKit Go.Lib Go.Maps

set_option maxRecDepth 100000 in
set_option maxHeartbeats 4000000 in
theorem fault_any (x : Fo) (c : Cg) (w : World) (h : Fo.fit w x) (ho : x.fd.ok) (hc : c.ok) :
    Calls Tryz.prog 113 #[x.v, c.v] w fun e w' => e = .returned (.int .i64 (errP diskP x.fd c)) ∧ Below w.heap.size w w' := by
  obtain ⟨ck, ca, cb, ci⟩ := c
  have hca : ca.size ≤ 1048576 := hc.2.1
  have hcb : cb.size ≤ 1048576 := hc.2.2.1
  have HFI := Lib.hid fun W hW => ffind_any x ca W hW ho hca
  have HDA := Lib.hid fun W => disk_any ca W (by omega)
  have HDB := Lib.hid fun W => disk_any cb W (by omega)
  obtain ⟨p, l, cc, q, m, d, L, M⟩ := x
  generalize Fo.fd ⟨p, l, cc, q, m, d, L, M⟩ = F at *
  have HF := Lib.hid h
  unfold Fo.v at HFI ⊢
  unfold Cg.v
  dsimp only at HFI ⊢
  obtain ⟨wA, hA⟩ : ∃ A, (w.alloc (.cells #[.slice p l cc, .slice q m d] 64)).alloc (.cells #[.int .i64 ck, .string ca, .string cb, .int .i64 ci] 106) = A := ⟨_, rfl⟩
  obtain ⟨G, hG⟩ : ∃ G, w.heap.size = G := ⟨_, rfl⟩
  obtain ⟨G1, hG1⟩ : ∃ G1, G + 1 = G1 := ⟨_, rfl⟩
  have HB0 : Hid (Below w.heap.size w wA) := Lib.hid (by rw [← hA]; exact below_allocF (below_allocF (Below.refl _ _) _) _)
  have HI : Hid (Fw wA G ⟨p, l, cc, q, m, d, L, M⟩) := Lib.hid (by rw [← hA, ← hG]; exact Fw.later (heap_alloc_new _ _) (below_allocF (Below.refl _ _) _))
  have HC : Hid (Cgw wA G1 ⟨ck, ca, cb, ci⟩) := Lib.hid (by rw [← hA, ← hG1, ← hG]; exact two_newF _ _ _)
  have HFA := Lib.hid (HF.out.later HB0.out)
  have HK : Hid (∀ W, Below wA.heap.size wA W → W.cell? ⟨G1, 0, none⟩ = some (.int .i64 ck) ∧ W.cell? ⟨G1, 1, none⟩ = some (.string ca) ∧ W.cell? ⟨G1, 2, none⟩ = some (.string cb) ∧ W.cell? ⟨G1, 3, none⟩ = some (.int .i64 ci)) := Lib.hid fun W hW => (HC.out.later hW).cells
  obtain ⟨i0, i1⟩ := HI.out.cells
  obtain ⟨g0, g1, g2, g3⟩ := HK.out _ (Below.refl _ _)
  obtain ⟨r, hr⟩ : ∃ r, findP (nowQ F) ca = r := ⟨_, rfl⟩
  obtain ⟨da, hda⟩ : ∃ r, diskP (numsOf ca) = r := ⟨_, rfl⟩
  obtain ⟨db, hdb⟩ : ∃ r, diskP (numsOf cb) = r := ⟨_, rfl⟩
  have HR := Lib.hid hr
  have HDAE := Lib.hid hda
  have HDBE := Lib.hid hdb
  clear h ho hc hr hda hdb hca hcb
  by_cases h1 : ck = 1
  · subst h1
    cases da with
    | false =>
      have HE : Hid (errP diskP F ⟨1, ca, cb, ci⟩ = 12) := Lib.hid (by unfold errP; dsimp only; rw [HDAE.out, if_pos rfl, if_pos rfl])
      go_enter Tryz.func113, Tryz.ntmps113
      go_wp2_with (first
        | (go_at_call 87; refine (HFI.out _ HFA.out).mono ?_; rintro e w2 ⟨rfl, hb2⟩; rw [HR.out]; unfold fndV; dsimp only [Option.getD_none, Option.getD_some, Option.isSome_none, Option.isSome_some]; have HB2 := Lib.hid (below_step HB0.out hb2); have kk := HK.out _ hb2; have HX2 := Lib.hid hb2; clear hb2; clear g0 g1 g2 g3; obtain ⟨g0, g1, g2, g3⟩ := kk)
        | (go_at_call 27; refine (HDA.out _).mono ?_; rintro e w3 ⟨rfl, hb3⟩; rw [HDAE.out]; have HB3 := Lib.hid (below_step HB2.out hb3); have kk := HK.out _ (below_step HX2.out hb3); clear hb3; clear g0 g1 g2 g3; obtain ⟨g0, g1, g2, g3⟩ := kk))
      go_ret
      exact ⟨by rw [HE.out]; rfl, HB3.out⟩
    | true => cases r with
      | none =>
        have HE : Hid (errP diskP F ⟨1, ca, cb, ci⟩ = 0) := Lib.hid (by unfold errP; dsimp only; rw [HDAE.out, HR.out]; rfl)
        go_enter Tryz.func113, Tryz.ntmps113
        go_wp2_with (first
          | (go_at_call 87; refine (HFI.out _ HFA.out).mono ?_; rintro e w2 ⟨rfl, hb2⟩; rw [HR.out]; unfold fndV; dsimp only [Option.getD_none, Option.getD_some, Option.isSome_none, Option.isSome_some]; have HB2 := Lib.hid (below_step HB0.out hb2); have kk := HK.out _ hb2; have HX2 := Lib.hid hb2; clear hb2; clear g0 g1 g2 g3; obtain ⟨g0, g1, g2, g3⟩ := kk)
          | (go_at_call 27; refine (HDA.out _).mono ?_; rintro e w3 ⟨rfl, hb3⟩; rw [HDAE.out]; have HB3 := Lib.hid (below_step HB2.out hb3); have kk := HK.out _ (below_step HX2.out hb3); clear hb3; clear g0 g1 g2 g3; obtain ⟨g0, g1, g2, g3⟩ := kk))
        go_ret
        exact ⟨by rw [HE.out]; rfl, HB3.out⟩
      | some i =>
        have HE : Hid (errP diskP F ⟨1, ca, cb, ci⟩ = 7) := Lib.hid (by unfold errP; dsimp only; rw [HDAE.out, HR.out]; rfl)
        go_enter Tryz.func113, Tryz.ntmps113
        go_wp2_with (first
          | (go_at_call 87; refine (HFI.out _ HFA.out).mono ?_; rintro e w2 ⟨rfl, hb2⟩; rw [HR.out]; unfold fndV; dsimp only [Option.getD_none, Option.getD_some, Option.isSome_none, Option.isSome_some]; have HB2 := Lib.hid (below_step HB0.out hb2); have kk := HK.out _ hb2; have HX2 := Lib.hid hb2; clear hb2; clear g0 g1 g2 g3; obtain ⟨g0, g1, g2, g3⟩ := kk)
          | (go_at_call 27; refine (HDA.out _).mono ?_; rintro e w3 ⟨rfl, hb3⟩; rw [HDAE.out]; have HB3 := Lib.hid (below_step HB2.out hb3); have kk := HK.out _ (below_step HX2.out hb3); clear hb3; clear g0 g1 g2 g3; obtain ⟨g0, g1, g2, g3⟩ := kk))
        go_ret
        exact ⟨by rw [HE.out]; rfl, HB3.out⟩
  have k1 : (ck == 1) = false := by simpa using h1
  by_cases h2 : ck = 2
  · subst h2
    cases r with
    | none =>
      have HE : Hid (errP diskP F ⟨2, ca, cb, ci⟩ = 6) := Lib.hid (by unfold errP; dsimp only; rw [HR.out]; rfl)
      clear k1 h1
      go_enter Tryz.func113, Tryz.ntmps113
      go_wp2_with (first
        | (go_at_call 87; refine (HFI.out _ HFA.out).mono ?_; rintro e w2 ⟨rfl, hb2⟩; rw [HR.out]; unfold fndV; dsimp only [Option.getD_none, Option.getD_some, Option.isSome_none, Option.isSome_some]; have HB2 := Lib.hid (below_step HB0.out hb2); have kk := HK.out _ hb2; have HX2 := Lib.hid hb2; clear hb2; clear g0 g1 g2 g3; obtain ⟨g0, g1, g2, g3⟩ := kk)
        | (go_at_call 27; refine (HDB.out _).mono ?_; rintro e w3 ⟨rfl, hb3⟩; rw [HDBE.out]; have HB3 := Lib.hid (below_step HB2.out hb3); have kk := HK.out _ (below_step HX2.out hb3); clear hb3; clear g0 g1 g2 g3; obtain ⟨g0, g1, g2, g3⟩ := kk))
      go_ret
      exact ⟨by rw [HE.out]; rfl, HB2.out⟩
    | some i => cases db with
      | false =>
        have HE : Hid (errP diskP F ⟨2, ca, cb, ci⟩ = 12) := Lib.hid (by unfold errP; dsimp only; rw [HR.out, HDBE.out]; rfl)
        clear k1 h1
        go_enter Tryz.func113, Tryz.ntmps113
        go_wp2_with (first
          | (go_at_call 87; refine (HFI.out _ HFA.out).mono ?_; rintro e w2 ⟨rfl, hb2⟩; rw [HR.out]; unfold fndV; dsimp only [Option.getD_none, Option.getD_some, Option.isSome_none, Option.isSome_some]; have HB2 := Lib.hid (below_step HB0.out hb2); have kk := HK.out _ hb2; have HX2 := Lib.hid hb2; clear hb2; clear g0 g1 g2 g3; obtain ⟨g0, g1, g2, g3⟩ := kk)
          | (go_at_call 27; refine (HDB.out _).mono ?_; rintro e w3 ⟨rfl, hb3⟩; rw [HDBE.out]; have HB3 := Lib.hid (below_step HB2.out hb3); have kk := HK.out _ (below_step HX2.out hb3); clear hb3; clear g0 g1 g2 g3; obtain ⟨g0, g1, g2, g3⟩ := kk))
        go_ret
        exact ⟨by rw [HE.out]; rfl, HB3.out⟩
      | true =>
        have HE : Hid (errP diskP F ⟨2, ca, cb, ci⟩ = 0) := Lib.hid (by unfold errP; dsimp only; rw [HR.out, HDBE.out]; rfl)
        clear k1 h1
        go_enter Tryz.func113, Tryz.ntmps113
        go_wp2_with (first
          | (go_at_call 87; refine (HFI.out _ HFA.out).mono ?_; rintro e w2 ⟨rfl, hb2⟩; rw [HR.out]; unfold fndV; dsimp only [Option.getD_none, Option.getD_some, Option.isSome_none, Option.isSome_some]; have HB2 := Lib.hid (below_step HB0.out hb2); have kk := HK.out _ hb2; have HX2 := Lib.hid hb2; clear hb2; clear g0 g1 g2 g3; obtain ⟨g0, g1, g2, g3⟩ := kk)
          | (go_at_call 27; refine (HDB.out _).mono ?_; rintro e w3 ⟨rfl, hb3⟩; rw [HDBE.out]; have HB3 := Lib.hid (below_step HB2.out hb3); have kk := HK.out _ (below_step HX2.out hb3); clear hb3; clear g0 g1 g2 g3; obtain ⟨g0, g1, g2, g3⟩ := kk))
        go_ret
        exact ⟨by rw [HE.out]; rfl, HB3.out⟩
  have k2 : (ck == 2) = false := by simpa using h2
  by_cases h3 : ck = 3
  · subst h3
    cases r with
    | none =>
      have HE : Hid (errP diskP F ⟨3, ca, cb, ci⟩ = 6) := Lib.hid (by unfold errP; dsimp only; rw [HR.out]; rfl)
      clear k1 h1 k2 h2
      go_enter Tryz.func113, Tryz.ntmps113
      go_wp2_with (first
        | (go_at_call 87; refine (HFI.out _ HFA.out).mono ?_; rintro e w2 ⟨rfl, hb2⟩; rw [HR.out]; unfold fndV; dsimp only [Option.getD_none, Option.getD_some, Option.isSome_none, Option.isSome_some]; have HB2 := Lib.hid (below_step HB0.out hb2); have kk := HK.out _ hb2; have HX2 := Lib.hid hb2; clear hb2; clear g0 g1 g2 g3; obtain ⟨g0, g1, g2, g3⟩ := kk)
        | (go_at_call 27; refine (HDB.out _).mono ?_; rintro e w3 ⟨rfl, hb3⟩; rw [HDBE.out]; have HB3 := Lib.hid (below_step HB2.out hb3); have kk := HK.out _ (below_step HX2.out hb3); clear hb3; clear g0 g1 g2 g3; obtain ⟨g0, g1, g2, g3⟩ := kk))
      go_ret
      exact ⟨by rw [HE.out]; rfl, HB2.out⟩
    | some i =>
      have HE : Hid (errP diskP F ⟨3, ca, cb, ci⟩ = 0) := Lib.hid (by unfold errP; dsimp only; rw [HR.out]; rfl)
      clear k1 h1 k2 h2
      go_enter Tryz.func113, Tryz.ntmps113
      go_wp2_with (first
        | (go_at_call 87; refine (HFI.out _ HFA.out).mono ?_; rintro e w2 ⟨rfl, hb2⟩; rw [HR.out]; unfold fndV; dsimp only [Option.getD_none, Option.getD_some, Option.isSome_none, Option.isSome_some]; have HB2 := Lib.hid (below_step HB0.out hb2); have kk := HK.out _ hb2; have HX2 := Lib.hid hb2; clear hb2; clear g0 g1 g2 g3; obtain ⟨g0, g1, g2, g3⟩ := kk)
        | (go_at_call 27; refine (HDB.out _).mono ?_; rintro e w3 ⟨rfl, hb3⟩; rw [HDBE.out]; have HB3 := Lib.hid (below_step HB2.out hb3); have kk := HK.out _ (below_step HX2.out hb3); clear hb3; clear g0 g1 g2 g3; obtain ⟨g0, g1, g2, g3⟩ := kk))
      go_ret
      exact ⟨by rw [HE.out]; rfl, HB2.out⟩
  have k3 : (ck == 3) = false := by simpa using h3
  have HE : Hid (errP diskP F ⟨ck, ca, cb, ci⟩ = 2) := Lib.hid (by unfold errP; dsimp only; rw [if_neg h1, if_neg h2, if_neg h3])
  go_enter Tryz.func113, Tryz.ntmps113
  go_wp2_with (first
    | (go_at_call 87; refine (HFI.out _ HFA.out).mono ?_; rintro e w2 ⟨rfl, hb2⟩; rw [HR.out]; unfold fndV; dsimp only [Option.getD_none, Option.getD_some, Option.isSome_none, Option.isSome_some]; have HB2 := Lib.hid (below_step HB0.out hb2); have kk := HK.out _ hb2; have HX2 := Lib.hid hb2; clear hb2; clear g0 g1 g2 g3; obtain ⟨g0, g1, g2, g3⟩ := kk)
    | (go_at_call 27; refine (HDB.out _).mono ?_; rintro e w3 ⟨rfl, hb3⟩; rw [HDBE.out]; have HB3 := Lib.hid (below_step HB2.out hb3); have kk := HK.out _ (below_step HX2.out hb3); clear hb3; clear g0 g1 g2 g3; obtain ⟨g0, g1, g2, g3⟩ := kk))
  go_ret
  exact ⟨by rw [HE.out]; rfl, HB2.out⟩
end Go.Proofs.YtncbgddgkpaoeaaGreat
