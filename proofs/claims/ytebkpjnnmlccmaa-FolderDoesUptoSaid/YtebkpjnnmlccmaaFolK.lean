/- Layer 11, the reference: put. -/
import Derived.Test.YtebkpjnnmlccmaaFolJ
namespace Go.Proofs.Ytebkpjnnmlccmaa
set_option linter.unusedVariables false
open Go.RowKit Go.Lib

theorem put_drop {L : List Nd} {k : Nat} (h : k < L.length) (x : Nd) (t : Bool) : putR x (L.drop k) t =
    (if t = false ∧ sgt (L.getD k nd0).s x.s = true then [x] else []) ++ ((if (L.getD k nd0).s = x.s then [] else [L.getD k nd0]) ++ putR x (L.drop (k + 1)) (t || sgt (L.getD k nd0).s x.s)) := by
  rw [List.drop_eq_getElem_cons h, List.getD_eq_getElem?_getD, List.getElem?_eq_getElem h]
  rfl
theorem less_true {a b : ByteArray} (h : slt a b) : Op.bytesLess a.toList b.toList = true := (less_iff _ _).2 h
theorem less_false {a b : ByteArray} (h : ¬ slt a b) : Op.bytesLess a.toList b.toList = false := by
  cases e : Op.bytesLess a.toList b.toList
  · rfl
  · exact absurd ((less_iff _ _).1 e) h
theorem sgt_false {a b : ByteArray} (h : ¬ slt b a) : sgt a b = false := by
  cases e : sgt a b
  · rfl
  · exact absurd (sgt_iff.1 e) h
set_option maxRecDepth 100000 in
set_option maxHeartbeats 4000000 in
theorem rput_any (p : Option Addr) (n c : Nat) (L : List Nd) (x : Nd) (w : World) (h : Gs encN w p n L) (hn : n ≤ 1048576) :
    Calls Try.prog 28 #[.slice p n c, .agg #[.string x.s, .int .i64 x.id]] w fun e w' => ∃ v, e = .returned v ∧ Gw encN w' w.heap.size v (putP L x) ∧ Below w.heap.size w w' := by
  obtain ⟨xs, xi⟩ := x
  dsimp only
  obtain ⟨wA, hA⟩ : ∃ A, w.alloc (.cells #[.string xs, .int .i64 xi] 48) = A := ⟨_, rfl⟩
  have HBA : Hid (Below w.heap.size w wA) := Lib.hid (by rw [← hA]; exact below_alloc' (Below.refl _ _) _)
  have HX : Hid (∀ W, Below wA.heap.size wA W → W.cell? ⟨w.heap.size, 0, none⟩ = some (.string xs) ∧ W.cell? ⟨w.heap.size, 1, none⟩ = some (.int .i64 xi)) := Lib.hid fun W hW => by
    have hl : w.heap.size < wA.heap.size := by rw [← hA]; simp
    have e : W.heap[w.heap.size]? = some (.cells #[.string xs, .int .i64 xi] 48 (0, 0)) := by rw [hW.block _ hl, ← hA]; exact heap_alloc_new _ _
    refine ⟨?_, ?_⟩ <;> (rw [cell_of_row _ _ _ _ _ _ e]; rfl)
  have H := Lib.hid (h.later HBA.out)
  have HL := Lib.hid h.1
  have HB0 := Lib.hid (Below.refl wA.heap.size wA)
  have HO0 := Lib.hid (Gw.nil encN wA wA.heap.size)
  have HLN : Hid ((putP L ⟨xs, xi⟩).length ≤ 1048577) := Lib.hid (Nat.le_trans (putP_length _ _) (by rw [h.1]; omega))
  clear h
  obtain ⟨x0, x1⟩ := HX.out _ HB0.out
  go_enter Try.func28, Try.ntmps28
  go_wp2
  clear hA x0 x1
  go_loopw [5, 6, 7] (fun v t i wr => ∃ (k : Nat) (o : List Nd) (tb : Bool), k ≤ n ∧ i = .int .i64 (k : Int) ∧ t = .bool tb ∧ Hid (Gw encN wr wA.heap.size v o) ∧ Hid (o ++ putR ⟨xs, xi⟩ (L.drop k) tb = putP L ⟨xs, xi⟩) ∧ Hid (Below wA.heap.size wA wr)) (fun _ _ i _ => n - (intOf i).toNat)
  case atStart => exact ⟨0, [], false, by omega, rfl, rfl, HO0, Lib.hid (by simp [putP]), HB0⟩
  case round =>
    clear HO0 HB0
    obtain ⟨k, o, tb, hk, rfl, rfl, HO, HE, HB⟩ := hrel
    by_cases hlt : k < n
    · obtain ⟨b, off, rfl, c0, c1⟩ := H.out.nd k hlt
      have HS := Lib.hid (put_drop (L := L) (k := k) (by rw [HL.out]; exact hlt) ⟨xs, xi⟩ tb)
      have hkn : (k : Int) < (n : Int) := by omega
      have hk0 : (0 : Int) ≤ (k : Int) := by omega
      generalize L.getD k nd0 = y at *
      obtain ⟨ys, yi⟩ := y
      dsimp only at c0 c1 HS
      have HK : Hid (∀ W, Below wA.heap.size wA W → W.cell? ⟨b, off + k * 2, none⟩ = some (.string ys) ∧ W.cell? ⟨b, off + k * 2 + 1, none⟩ = some (.int .i64 yi) ∧ W.cell? ⟨w.heap.size, 0, none⟩ = some (.string xs) ∧ W.cell? ⟨w.heap.size, 1, none⟩ = some (.int .i64 xi)) := Lib.hid fun W hW => by
        refine ⟨?_, ?_, HX.out W hW⟩
        · rw [hW.cell (World.block_lt_of_cell? wA _ c0)]; exact c0
        · rw [hW.cell (World.block_lt_of_cell? wA _ c1)]; exact c1
      clear c0 c1
      obtain ⟨c0, c1, x0, x1⟩ := HK.out _ HB.out
      rcases Classical.em (ys = xs) with he | he
      · have h1 := sq_true he
        have h2 : Op.bytesLess ys.toList xs.toList = false := by rw [he]; exact less_false (slt_irrefl _)
        have HF : Hid (o ++ putR ⟨xs, xi⟩ (L.drop (k + 1)) tb = putP L ⟨xs, xi⟩) := Lib.hid (by have := HE.out; rw [HS.out, if_pos he, sgt_false (by rw [he]; exact slt_irrefl _)] at this; simpa using this)
        clear HS HE he
        cases tb
        · go_wp2
          go_quiet (fail)
          have HO1 := Lib.hid (HO.out.later (below_drewN (Below.refl wr.heap.size wr) nq))
          have HB1 := Lib.hid (below_drewN HB.out nq)
          generalize wr.drewN nq = w1 at *
          clear c0 c1 x0 x1 HO HB
          obtain ⟨c0, c1, x0, x1⟩ := HK.out _ HB1.out
          go_wp2
          go_quiet (fail)
          have HO2 := Lib.hid (HO1.out.later (below_drewN (Below.refl w1.heap.size w1) nq))
          have HB2 := Lib.hid (below_drewN HB1.out nq)
          generalize w1.drewN nq = w2 at *
          clear c0 c1 x0 x1 HO1 HB1
          obtain ⟨c0, c1, x0, x1⟩ := HK.out _ HB2.out
          go_wp2
          refine ⟨?_, by simp [intOf]; omega⟩
          first
            | exact ⟨k + 1, _, false, by omega, by go_num, rfl, HO2, HF, HB2⟩
            | ((repeat apply Exists.intro); refine ⟨?_, rfl⟩; exact ⟨k + 1, _, false, by omega, by go_num, rfl, HO2, HF, HB2⟩)
        · go_wp2
          go_quiet (fail)
          have HO1 := Lib.hid (HO.out.later (below_drewN (Below.refl wr.heap.size wr) nq))
          have HB1 := Lib.hid (below_drewN HB.out nq)
          generalize wr.drewN nq = w1 at *
          clear c0 c1 x0 x1 HO HB
          obtain ⟨c0, c1, x0, x1⟩ := HK.out _ HB1.out
          go_wp2
          go_quiet (fail)
          have HO2 := Lib.hid (HO1.out.later (below_drewN (Below.refl w1.heap.size w1) nq))
          have HB2 := Lib.hid (below_drewN HB1.out nq)
          generalize w1.drewN nq = w2 at *
          clear c0 c1 x0 x1 HO1 HB1
          obtain ⟨c0, c1, x0, x1⟩ := HK.out _ HB2.out
          go_wp2
          refine ⟨?_, by simp [intOf]; omega⟩
          first
            | exact ⟨k + 1, _, true, by omega, by go_num, rfl, HO2, HF, HB2⟩
            | ((repeat apply Exists.intro); refine ⟨?_, rfl⟩; exact ⟨k + 1, _, true, by omega, by go_num, rfl, HO2, HF, HB2⟩)
      · have h1 := sq_false he
        cases tb
        · rcases Classical.em (slt xs ys) with hg | hg
          · have h2 : Op.bytesLess ys.toList xs.toList = false := less_false (fun h => slt_asymm h hg)
            have HF : Hid (((o ++ [⟨xs, xi⟩]) ++ [⟨ys, yi⟩]) ++ putR ⟨xs, xi⟩ (L.drop (k + 1)) true = putP L ⟨xs, xi⟩) := Lib.hid (by have := HE.out; rw [HS.out, if_neg he, sgt_iff.2 hg] at this; rw [← this]; simp)
            have HZ1 : Hid (o.length + 1 ≤ 2097152) := Lib.hid (by have h2 := HLN.out; rw [← HF.out] at h2; simp at h2; omega)
            have HZ2 : Hid ((o ++ [(⟨xs, xi⟩ : Nd)]).length + 1 ≤ 2097152) := Lib.hid (by have h2 := HLN.out; rw [← HF.out] at h2; simp at h2 ⊢; omega)
            clear HS HE he hg
            go_wp2
            go_quiet (fail)
            have HO1 := Lib.hid (HO.out.later (below_drewN (Below.refl wr.heap.size wr) nq))
            have HB1 := Lib.hid (below_drewN HB.out nq)
            generalize wr.drewN nq = w1 at *
            clear c0 c1 x0 x1 HO HB
            obtain ⟨c0, c1, x0, x1⟩ := HK.out _ HB1.out
            have HN2 := Lib.hid (Gs.one encN w1 ⟨xs, xi⟩ #[.string xs, .int .i64 xi] rfl 48 (0, 0))
            have HL2 := Lib.hid (below_alloc' HB1.out (.cells #[.string xs, .int .i64 xi] 48))
            have HA2 := Lib.hid (HO1.out.alloc (.cells #[.string xs, .int .i64 xi] 48))
            have k2 := HK.out _ HL2.out
            go_wp2_with (refine wpList_append_gen encN rfl (.tmp 26) (.tmp 28) 22 rfl Try.underlying22 nzero 24 infoN rfl (by decide) wA.heap.size _ _ rfl HA2.out _ 1 1 [⟨xs, xi⟩] rfl HN2.out (fun h => by cases h) HZ1.out HL2.out.size ?_; intro v2 w2 ho2 hg2; have HO2 := Lib.hid ho2; have HB2 : Hid (Below wA.heap.size wA w2) := Lib.hid (below_new_gw HL2.out HA2.out hg2 HL2.out.size); have kk := HK.out _ HB2.out; clear ho2 hg2)
            obtain ⟨c0, c1, x0, x1⟩ := kk
            clear k2
            go_wp2
            go_quiet (fail)
            have HO3 := Lib.hid (HO2.out.later (below_drewN (Below.refl w2.heap.size w2) nq))
            have HB3 := Lib.hid (below_drewN HB2.out nq)
            generalize w2.drewN nq = w3 at *
            clear c0 c1 x0 x1 HO2 HB2
            obtain ⟨c0, c1, x0, x1⟩ := HK.out _ HB3.out
            have HN4 := Lib.hid (Gs.one encN w3 ⟨ys, yi⟩ #[.string ys, .int .i64 yi] rfl 48 (0, 0))
            have HL4 := Lib.hid (below_alloc' HB3.out (.cells #[.string ys, .int .i64 yi] 48))
            have HA4 := Lib.hid (HO3.out.alloc (.cells #[.string ys, .int .i64 yi] 48))
            have k4 := HK.out _ HL4.out
            go_wp2_with (refine wpList_append_gen encN rfl (.tmp 38) (.tmp 43) 22 rfl Try.underlying22 nzero 24 infoN rfl (by decide) wA.heap.size _ _ rfl HA4.out _ 1 1 [⟨ys, yi⟩] rfl HN4.out (fun h => by cases h) HZ2.out HL4.out.size ?_; intro v4 w4 ho4 hg4; have HO4 := Lib.hid ho4; have HB4 : Hid (Below wA.heap.size wA w4) := Lib.hid (below_new_gw HL4.out HA4.out hg4 HL4.out.size); have kk := HK.out _ HB4.out; clear ho4 hg4)
            clear kk
            refine ⟨?_, by simp [intOf]; omega⟩
            first
              | exact ⟨k + 1, _, true, by omega, by go_num, rfl, HO4, HF, HB4⟩
              | ((repeat apply Exists.intro); refine ⟨?_, rfl⟩; exact ⟨k + 1, _, true, by omega, by go_num, rfl, HO4, HF, HB4⟩)
          · have h2 : Op.bytesLess ys.toList xs.toList = true := less_true (slt_total hg (fun e => he e.symm))
            have HF : Hid ((o ++ [⟨ys, yi⟩]) ++ putR ⟨xs, xi⟩ (L.drop (k + 1)) false = putP L ⟨xs, xi⟩) := Lib.hid (by have := HE.out; rw [HS.out, if_neg he, sgt_false hg] at this; rw [← this]; simp)
            have HZ1 : Hid (o.length + 1 ≤ 2097152) := Lib.hid (by have h2 := HLN.out; rw [← HF.out] at h2; simp at h2; omega)
            clear HS HE he hg
            go_wp2
            go_quiet (fail)
            have HO1 := Lib.hid (HO.out.later (below_drewN (Below.refl wr.heap.size wr) nq))
            have HB1 := Lib.hid (below_drewN HB.out nq)
            generalize wr.drewN nq = w1 at *
            clear c0 c1 x0 x1 HO HB
            obtain ⟨c0, c1, x0, x1⟩ := HK.out _ HB1.out
            go_wp2
            go_quiet (fail)
            have HO2 := Lib.hid (HO1.out.later (below_drewN (Below.refl w1.heap.size w1) nq))
            have HB2 := Lib.hid (below_drewN HB1.out nq)
            generalize w1.drewN nq = w2 at *
            clear c0 c1 x0 x1 HO1 HB1
            obtain ⟨c0, c1, x0, x1⟩ := HK.out _ HB2.out
            have HN3 := Lib.hid (Gs.one encN w2 ⟨ys, yi⟩ #[.string ys, .int .i64 yi] rfl 48 (0, 0))
            have HL3 := Lib.hid (below_alloc' HB2.out (.cells #[.string ys, .int .i64 yi] 48))
            have HA3 := Lib.hid (HO2.out.alloc (.cells #[.string ys, .int .i64 yi] 48))
            have k3 := HK.out _ HL3.out
            go_wp2_with (refine wpList_append_gen encN rfl (.tmp 38) (.tmp 43) 22 rfl Try.underlying22 nzero 24 infoN rfl (by decide) wA.heap.size _ _ rfl HA3.out _ 1 1 [⟨ys, yi⟩] rfl HN3.out (fun h => by cases h) HZ1.out HL3.out.size ?_; intro v3 w3 ho3 hg3; have HO3 := Lib.hid ho3; have HB3 : Hid (Below wA.heap.size wA w3) := Lib.hid (below_new_gw HL3.out HA3.out hg3 HL3.out.size); have kk := HK.out _ HB3.out; clear ho3 hg3)
            clear kk
            refine ⟨?_, by simp [intOf]; omega⟩
            first
              | exact ⟨k + 1, _, false, by omega, by go_num, rfl, HO3, HF, HB3⟩
              | ((repeat apply Exists.intro); refine ⟨?_, rfl⟩; exact ⟨k + 1, _, false, by omega, by go_num, rfl, HO3, HF, HB3⟩)
        · have HF : Hid ((o ++ [⟨ys, yi⟩]) ++ putR ⟨xs, xi⟩ (L.drop (k + 1)) true = putP L ⟨xs, xi⟩) := Lib.hid (by have := HE.out; rw [HS.out, if_neg he] at this; rw [← this]; simp)
          have HZ1 : Hid (o.length + 1 ≤ 2097152) := Lib.hid (by have h2 := HLN.out; rw [← HF.out] at h2; simp at h2; omega)
          clear HS HE he
          go_wp2
          go_quiet (fail)
          have HO1 := Lib.hid (HO.out.later (below_drewN (Below.refl wr.heap.size wr) nq))
          have HB1 := Lib.hid (below_drewN HB.out nq)
          generalize wr.drewN nq = w1 at *
          clear c0 c1 x0 x1 HO HB
          obtain ⟨c0, c1, x0, x1⟩ := HK.out _ HB1.out
          go_wp2
          go_quiet (fail)
          have HO2 := Lib.hid (HO1.out.later (below_drewN (Below.refl w1.heap.size w1) nq))
          have HB2 := Lib.hid (below_drewN HB1.out nq)
          generalize w1.drewN nq = w2 at *
          clear c0 c1 x0 x1 HO1 HB1
          obtain ⟨c0, c1, x0, x1⟩ := HK.out _ HB2.out
          have HN3 := Lib.hid (Gs.one encN w2 ⟨ys, yi⟩ #[.string ys, .int .i64 yi] rfl 48 (0, 0))
          have HL3 := Lib.hid (below_alloc' HB2.out (.cells #[.string ys, .int .i64 yi] 48))
          have HA3 := Lib.hid (HO2.out.alloc (.cells #[.string ys, .int .i64 yi] 48))
          have k3 := HK.out _ HL3.out
          go_wp2_with (refine wpList_append_gen encN rfl (.tmp 38) (.tmp 43) 22 rfl Try.underlying22 nzero 24 infoN rfl (by decide) wA.heap.size _ _ rfl HA3.out _ 1 1 [⟨ys, yi⟩] rfl HN3.out (fun h => by cases h) HZ1.out HL3.out.size ?_; intro v3 w3 ho3 hg3; have HO3 := Lib.hid ho3; have HB3 : Hid (Below wA.heap.size wA w3) := Lib.hid (below_new_gw HL3.out HA3.out hg3 HL3.out.size); have kk := HK.out _ HB3.out; clear ho3 hg3)
          clear kk
          refine ⟨?_, by simp [intOf]; omega⟩
          first
            | exact ⟨k + 1, _, true, by omega, by go_num, rfl, HO3, HF, HB3⟩
            | ((repeat apply Exists.intro); refine ⟨?_, rfl⟩; exact ⟨k + 1, _, true, by omega, by go_num, rfl, HO3, HF, HB3⟩)
    · obtain rfl : k = n := by omega
      obtain ⟨x0, x1⟩ := HX.out _ HB.out
      cases tb
      · have HF : Hid (o ++ [⟨xs, xi⟩] = putP L ⟨xs, xi⟩) := Lib.hid (by
          have h := HE.out
          rw [List.drop_of_length_le (by rw [HL.out]; omega)] at h
          exact h)
        have HZ1 : Hid (o.length + 1 ≤ 2097152) := Lib.hid (by have h2 := HLN.out; rw [← HF.out] at h2; simp at h2; omega)
        have HK : Hid (∀ W, Below wA.heap.size wA W → True) := Lib.hid fun _ _ => trivial
        clear HE
        have HN1 := Lib.hid (Gs.one encN wr ⟨xs, xi⟩ #[.string xs, .int .i64 xi] rfl 48 (0, 0))
        have HL1 := Lib.hid (below_alloc' HB.out (.cells #[.string xs, .int .i64 xi] 48))
        have HA1 := Lib.hid (HO.out.alloc (.cells #[.string xs, .int .i64 xi] 48))
        have k1 := HK.out _ HL1.out
        go_wp2_with (refine wpList_append_gen encN rfl (.tmp 47) (.tmp 49) 22 rfl Try.underlying22 nzero 24 infoN rfl (by decide) wA.heap.size _ _ rfl HA1.out _ 1 1 [⟨xs, xi⟩] rfl HN1.out (fun h => by cases h) HZ1.out HL1.out.size ?_; intro v1 w1 ho1 hg1; have HO1 := Lib.hid ho1; have HB1 : Hid (Below wA.heap.size wA w1) := Lib.hid (below_new_gw HL1.out HA1.out hg1 HL1.out.size); have kk := HK.out _ HB1.out; clear ho1 hg1)
        clear kk k1
        go_wp2
        go_ret
        exact ⟨_, rfl, by rw [← HF.out]; exact HO1.out.mono HBA.out.size, below_step HBA.out HB1.out⟩
      · have HF : Hid (o = putP L ⟨xs, xi⟩) := Lib.hid (by
          have h := HE.out
          rw [List.drop_of_length_le (by rw [HL.out]; omega)] at h
          simpa [putR] using h)
        go_wp2
        go_ret
        exact ⟨_, rfl, by rw [← HF.out]; exact HO.out.mono HBA.out.size, below_step HBA.out HB.out⟩
end Go.Proofs.Ytebkpjnnmlccmaa
