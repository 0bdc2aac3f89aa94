/- Layer 11, the reference: find, without, put; Layer 11, the reference: put; Layer 11, the reference: Behind, Now, Find; Layer 11, the reference: putInt, Ids -/
import Derived.Test.YtncbgddgkpaoeaaGreatDd13
import Derived.Laws.Cover1
set_option linter.unusedSimpArgs false
set_option linter.unusedVariables false
namespace Go.Proofs.YtncbgddgkpaoeaaGreat
set_option linter.unusedVariables false
open Go.RowKit Go.Lib

/-- what a look-up gives -/
def fndV (o : Option Int) : Value := .tuple #[.int .i64 (o.getD 0), .bool o.isSome]
theorem find_drop {L : List Nd} {k : Nat} (h : k < L.length) (s : ByteArray) : findP (L.drop k) s = if (L.getD k nd0).s = s then some (L.getD k nd0).id else findP (L.drop (k + 1)) s := by
  rw [List.drop_eq_getElem_cons h, List.getD_eq_getElem?_getD, List.getElem?_eq_getElem h]
  rfl
set_option maxRecDepth 100000 in
theorem rfind_any (p : Option Addr) (n c : Nat) (L : List Nd) (s : ByteArray) (w : World) (h : Gs encN w p n L) (hn : n ≤ 2097152) :
    Calls Tryz.prog 67 #[.slice p n c, .string s] w fun e w' => e = .returned (fndV (findP L s)) ∧ w = w' := by
  have H := Lib.hid h
  have HL := Lib.hid h.1
  clear h
  go_enter Tryz.func67, Tryz.ntmps67
  go_wp2
  go_loopw [6] (fun i wr => ∃ k : Nat, k ≤ n ∧ i = .int .i64 (k : Int) ∧ Hid (findP L s = findP (L.drop k) s) ∧ w = wr) (fun i _ => n - (intOf i).toNat)
  case atStart => exact ⟨0, by omega, rfl, Lib.hid (by simp), rfl⟩
  case round =>
    obtain ⟨k, hk, rfl, HO, rfl⟩ := hrel
    by_cases hlt : k < n
    · obtain ⟨b, off, rfl, c0, c1⟩ := H.out.nd k hlt
      have HS := Lib.hid (find_drop (L := L) (k := k) (by rw [HL.out]; exact hlt) s)
      have hkn : (k : Int) < (n : Int) := by omega
      have hk0 : (0 : Int) ≤ (k : Int) := by omega
      generalize L.getD k nd0 = y at *
      obtain ⟨ys, yi⟩ := y
      dsimp only at c0 c1 HS
      by_cases he : ys = s
      · have h1 := sq_true he
        have HF : Hid (findP L s = some yi) := Lib.hid (by rw [HO.out, HS.out, if_pos he])
        clear HS HO he
        go_wp2
        go_ret2
        exact ⟨by rw [HF.out]; rfl, rfl⟩
      · have h1 := sq_false he
        have HF : Hid (findP L s = findP (L.drop (k + 1)) s) := Lib.hid (by rw [HO.out, HS.out, if_neg he])
        clear HS HO he
        go_wp2
        exact ⟨⟨k + 1, by omega, by go_num, HF, trivial⟩, by simp [intOf] <;> omega⟩
    · obtain rfl : k = n := by omega
      have HF : Hid (findP L s = none) := Lib.hid (by
        have h := HO.out
        rw [List.drop_of_length_le (by rw [HL.out]; omega)] at h
        exact h)
      go_wp2
      go_ret2
      exact ⟨by rw [HF.out]; rfl, rfl⟩

theorem out_drop {L : List Nd} {k : Nat} (h : k < L.length) (s : ByteArray) : outP (L.drop k) s = (if (L.getD k nd0).s = s then [] else [L.getD k nd0]) ++ outP (L.drop (k + 1)) s := by
  rw [List.drop_eq_getElem_cons h, List.getD_eq_getElem?_getD, List.getElem?_eq_getElem h]
  unfold outP
  rw [List.filter_cons]
  dsimp only [Option.getD_some]
  by_cases e : L[k].s = s
  · rw [if_pos e, if_neg (by simp [e])]; rfl
  · rw [if_neg e, if_pos (by simp [e])]; rfl
set_option maxRecDepth 100000 in
set_option maxHeartbeats 1000000 in
theorem rwithout_any (p : Option Addr) (n c : Nat) (L : List Nd) (s : ByteArray) (w : World) (h : Gs encN w p n L) (hn : n ≤ 1048576) :
    Calls Tryz.prog 94 #[.slice p n c, .string s] w fun e w' => ∃ v, e = .returned v ∧ Gw encN w' w.heap.size v (outP L s) ∧ Below w.heap.size w w' := by
  have H := Lib.hid h
  have HL := Lib.hid h.1
  have HB0 := Lib.hid (Below.refl w.heap.size w)
  have HO0 := Lib.hid (Gw.nil encN w w.heap.size)
  have HLN : Hid ((outP L s).length ≤ 1048576) := Lib.hid (Nat.le_trans (outP_length _ _) (by rw [h.1]; exact hn))
  clear h
  go_enter Tryz.func94, Tryz.ntmps94
  go_wp2
  go_loopw [5, 6] (fun v i wr => ∃ (k : Nat) (o : List Nd), k ≤ n ∧ i = .int .i64 (k : Int) ∧ Hid (Gw encN wr w.heap.size v o) ∧ Hid (o ++ outP (L.drop k) s = outP L s) ∧ Hid (Below w.heap.size w wr)) (fun _ i _ => n - (intOf i).toNat)
  case atStart => exact ⟨0, [], by omega, rfl, HO0, Lib.hid (by simp), HB0⟩
  case round =>
    clear HO0 HB0
    obtain ⟨k, o, hk, rfl, HO, HE, HB⟩ := hrel
    by_cases hlt : k < n
    · obtain ⟨b, off, rfl, c0, c1⟩ := (H.out.later HB.out).nd k hlt
      have HS := Lib.hid (out_drop (L := L) (k := k) (by rw [HL.out]; exact hlt) s)
      have hkn : (k : Int) < (n : Int) := by omega
      have hk0 : (0 : Int) ≤ (k : Int) := by omega
      generalize L.getD k nd0 = y at *
      obtain ⟨ys, yi⟩ := y
      dsimp only at c0 c1 HS
      by_cases he : ys = s
      · have h1 := sq_true he
        have HF : Hid (o ++ outP (L.drop (k + 1)) s = outP L s) := Lib.hid (by have := HE.out; rw [HS.out, if_pos he, List.nil_append] at this; exact this)
        clear HS HE he
        go_wp2
        refine ⟨?_, by simp [intOf]; omega⟩
        first
          | exact ⟨k + 1, o, by omega, by go_num, HO, HF, HB⟩
          | ((repeat apply Exists.intro); refine ⟨?_, rfl⟩; exact ⟨k + 1, o, by omega, by go_num, HO, HF, HB⟩)
      · have h1 := sq_false he
        have HF : Hid ((o ++ [⟨ys, yi⟩]) ++ outP (L.drop (k + 1)) s = outP L s) := Lib.hid (by have := HE.out; rw [HS.out, if_neg he] at this; rw [← this]; simp)
        have HZ : Hid (o.length + 1 ≤ 2097152) := Lib.hid (by have h2 := HLN.out; rw [← HF.out] at h2; simp at h2; omega)
        have HN1 := Lib.hid (Gs.one encN wr ⟨ys, yi⟩ #[.string ys, .int .i64 yi] rfl 75 (0, 0))
        have HB1 := Lib.hid (below_allocF HB.out (.cells #[.string ys, .int .i64 yi] 75))
        have HO1 := Lib.hid (HO.out.alloc (.cells #[.string ys, .int .i64 yi] 75))
        clear HS HE he
        go_wp2_with (refine wpList_append_gen encN rfl (.tmp 20) (.tmp 25) 61 rfl Tryz.underlying61 nzero 24 infoN rfl (by decide) w.heap.size _ o rfl HO1.out _ 1 1 [⟨ys, yi⟩] rfl HN1.out (fun h => by cases h) HZ.out HB1.out.size ?_; intro v5 w5 ho5 hg5; have HO5 := Lib.hid ho5; have HB5 : Hid (Below w.heap.size w w5) := Lib.hid (below_new_gw HB1.out HO1.out hg5 HB1.out.size); clear ho5 hg5)
        refine ⟨?_, by simp [intOf]; omega⟩
        first
          | exact ⟨k + 1, _, by omega, by go_num, HO5, HF, HB5⟩
          | ((repeat apply Exists.intro); refine ⟨?_, rfl⟩; exact ⟨k + 1, _, by omega, by go_num, HO5, HF, HB5⟩)
    · obtain rfl : k = n := by omega
      have HF : Hid (o = outP L s) := Lib.hid (by
        have h := HE.out
        rw [List.drop_of_length_le (by rw [HL.out]; omega)] at h
        simpa [outP] using h)
      go_wp2
      go_ret
      exact ⟨_, rfl, by rw [← HF.out]; exact HO.out, HB.out⟩
end Go.Proofs.YtncbgddgkpaoeaaGreat

namespace Go.Proofs.YtncbgddgkpaoeaaGreat
set_option linter.unusedVariables false
open Go.RowKit Go.Lib

theorem put_drop {L : List Nd} {k : Nat} (h : k < L.length) (x : Nd) (t : Bool) : putR x (L.drop k) t =
    (if t = false ∧ sgt (L.getD k nd0).s x.s = true then [x] else []) ++ ((if (L.getD k nd0).s = x.s then [] else [L.getD k nd0]) ++ putR x (L.drop (k + 1)) (t || sgt (L.getD k nd0).s x.s)) := by
  rw [List.drop_eq_getElem_cons h, List.getD_eq_getElem?_getD, List.getElem?_eq_getElem h]
  rfl
theorem less_true {a b : ByteArray} (h : slt a b) : Op.bytesLess a.toList b.toList = true := (less_iff _ _).2 h
theorem less_false {a b : ByteArray} (h : ¬ slt a b) : Op.bytesLess a.toList b.toList = false := by
  cases e : Op.bytesLess a.toList b.toList
  · rfl
  · exact absurd ((less_iff _ _).1 e) h
theorem sgt_false {a b : ByteArray} (h : ¬ slt b a) : sgt a b = false := by
  cases e : sgt a b
  · rfl
  · exact absurd (sgt_iff.1 e) h
set_option maxRecDepth 100000 in
set_option maxHeartbeats 4000000 in
theorem rput_any (p : Option Addr) (n c : Nat) (L : List Nd) (x : Nd) (w : World) (h : Gs encN w p n L) (hn : n ≤ 1048576) :
    Calls Tryz.prog 93 #[.slice p n c, .agg #[.string x.s, .int .i64 x.id]] w fun e w' => ∃ v, e = .returned v ∧ Gw encN w' w.heap.size v (putQ L x) ∧ Below w.heap.size w w' := by
  obtain ⟨xs, xi⟩ := x
  dsimp only
  obtain ⟨wA, hA⟩ : ∃ A, w.alloc (.cells #[.string xs, .int .i64 xi] 75) = A := ⟨_, rfl⟩
  have HBA : Hid (Below w.heap.size w wA) := Lib.hid (by rw [← hA]; exact below_allocF (Below.refl _ _) _)
  have HX : Hid (∀ W, Below wA.heap.size wA W → W.cell? ⟨w.heap.size, 0, none⟩ = some (.string xs) ∧ W.cell? ⟨w.heap.size, 1, none⟩ = some (.int .i64 xi)) := Lib.hid fun W hW => by
    have hl : w.heap.size < wA.heap.size := by rw [← hA]; simp
    have e : W.heap[w.heap.size]? = some (.cells #[.string xs, .int .i64 xi] 75 (0, 0)) := by rw [hW.block _ hl, ← hA]; exact heap_alloc_new _ _
    refine ⟨?_, ?_⟩ <;> (rw [cell_of_row _ _ _ _ _ _ e]; rfl)
  have H := Lib.hid (h.later HBA.out)
  have HL := Lib.hid h.1
  have HB0 := Lib.hid (Below.refl wA.heap.size wA)
  have HO0 := Lib.hid (Gw.nil encN wA wA.heap.size)
  have HLN : Hid ((putQ L ⟨xs, xi⟩).length ≤ 1048577) := Lib.hid (Nat.le_trans (putQ_length _ _) (by rw [h.1]; omega))
  clear h
  obtain ⟨x0, x1⟩ := HX.out _ HB0.out
  go_enter Tryz.func93, Tryz.ntmps93
  go_wp2
  clear hA x0 x1
  go_loopw [5, 6, 7] (fun v t i wr => ∃ (k : Nat) (o : List Nd) (tb : Bool), k ≤ n ∧ i = .int .i64 (k : Int) ∧ t = .bool tb ∧ Hid (Gw encN wr wA.heap.size v o) ∧ Hid (o ++ putR ⟨xs, xi⟩ (L.drop k) tb = putQ L ⟨xs, xi⟩) ∧ Hid (Below wA.heap.size wA wr)) (fun _ _ i _ => n - (intOf i).toNat)
  case atStart => exact ⟨0, [], false, by omega, rfl, rfl, HO0, Lib.hid (by simp [putQ]), HB0⟩
  case round =>
    clear HO0 HB0
    obtain ⟨k, o, tb, hk, rfl, rfl, HO, HE, HB⟩ := hrel
    by_cases hlt : k < n
    · obtain ⟨b, off, rfl, c0, c1⟩ := H.out.nd k hlt
      have HS := Lib.hid (put_drop (L := L) (k := k) (by rw [HL.out]; exact hlt) ⟨xs, xi⟩ tb)
      have hkn : (k : Int) < (n : Int) := by omega
      have hk0 : (0 : Int) ≤ (k : Int) := by omega
      generalize L.getD k nd0 = y at *
      obtain ⟨ys, yi⟩ := y
      dsimp only at c0 c1 HS
      have HK : Hid (∀ W, Below wA.heap.size wA W → W.cell? ⟨b, off + k * 2, none⟩ = some (.string ys) ∧ W.cell? ⟨b, off + k * 2 + 1, none⟩ = some (.int .i64 yi) ∧ W.cell? ⟨w.heap.size, 0, none⟩ = some (.string xs) ∧ W.cell? ⟨w.heap.size, 1, none⟩ = some (.int .i64 xi)) := Lib.hid fun W hW => by
        refine ⟨?_, ?_, HX.out W hW⟩
        · rw [hW.cell (World.block_lt_of_cell? wA _ c0)]; exact c0
        · rw [hW.cell (World.block_lt_of_cell? wA _ c1)]; exact c1
      clear c0 c1
      obtain ⟨c0, c1, x0, x1⟩ := HK.out _ HB.out
      rcases Classical.em (ys = xs) with he | he
      · have h1 := sq_true he
        have h2 : Op.bytesLess ys.toList xs.toList = false := by rw [he]; exact less_false (slt_irrefl _)
        have HF : Hid (o ++ putR ⟨xs, xi⟩ (L.drop (k + 1)) tb = putQ L ⟨xs, xi⟩) := Lib.hid (by have := HE.out; rw [HS.out, if_pos he, sgt_false (by rw [he]; exact slt_irrefl _)] at this; simpa using this)
        clear HS HE he
        cases tb
        · go_wp2
          go_quiet (fail)
          have HO1 := Lib.hid (HO.out.later (below_drewN (Below.refl wr.heap.size wr) nq))
          have HB1 := Lib.hid (below_drewN HB.out nq)
          generalize wr.drewN nq = w1 at *
          clear c0 c1 x0 x1 HO HB
          obtain ⟨c0, c1, x0, x1⟩ := HK.out _ HB1.out
          go_wp2
          go_quiet (fail)
          have HO2 := Lib.hid (HO1.out.later (below_drewN (Below.refl w1.heap.size w1) nq))
          have HB2 := Lib.hid (below_drewN HB1.out nq)
          generalize w1.drewN nq = w2 at *
          clear c0 c1 x0 x1 HO1 HB1
          obtain ⟨c0, c1, x0, x1⟩ := HK.out _ HB2.out
          go_wp2
          refine ⟨?_, by simp [intOf]; omega⟩
          first
            | exact ⟨k + 1, _, false, by omega, by go_num, rfl, HO2, HF, HB2⟩
            | ((repeat apply Exists.intro); refine ⟨?_, rfl⟩; exact ⟨k + 1, _, false, by omega, by go_num, rfl, HO2, HF, HB2⟩)
        · go_wp2
          go_quiet (fail)
          have HO1 := Lib.hid (HO.out.later (below_drewN (Below.refl wr.heap.size wr) nq))
          have HB1 := Lib.hid (below_drewN HB.out nq)
          generalize wr.drewN nq = w1 at *
          clear c0 c1 x0 x1 HO HB
          obtain ⟨c0, c1, x0, x1⟩ := HK.out _ HB1.out
          go_wp2
          go_quiet (fail)
          have HO2 := Lib.hid (HO1.out.later (below_drewN (Below.refl w1.heap.size w1) nq))
          have HB2 := Lib.hid (below_drewN HB1.out nq)
          generalize w1.drewN nq = w2 at *
          clear c0 c1 x0 x1 HO1 HB1
          obtain ⟨c0, c1, x0, x1⟩ := HK.out _ HB2.out
          go_wp2
          refine ⟨?_, by simp [intOf]; omega⟩
          first
            | exact ⟨k + 1, _, true, by omega, by go_num, rfl, HO2, HF, HB2⟩
            | ((repeat apply Exists.intro); refine ⟨?_, rfl⟩; exact ⟨k + 1, _, true, by omega, by go_num, rfl, HO2, HF, HB2⟩)
      · have h1 := sq_false he
        cases tb
        · rcases Classical.em (slt xs ys) with hg | hg
          · have h2 : Op.bytesLess ys.toList xs.toList = false := less_false (fun h => slt_asymm h hg)
            have HF : Hid (((o ++ [⟨xs, xi⟩]) ++ [⟨ys, yi⟩]) ++ putR ⟨xs, xi⟩ (L.drop (k + 1)) true = putQ L ⟨xs, xi⟩) := Lib.hid (by have := HE.out; rw [HS.out, if_neg he, sgt_iff.2 hg] at this; rw [← this]; simp)
            have HZ1 : Hid (o.length + 1 ≤ 2097152) := Lib.hid (by have h2 := HLN.out; rw [← HF.out] at h2; simp at h2; omega)
            have HZ2 : Hid ((o ++ [(⟨xs, xi⟩ : Nd)]).length + 1 ≤ 2097152) := Lib.hid (by have h2 := HLN.out; rw [← HF.out] at h2; simp at h2 ⊢; omega)
            clear HS HE he hg
            go_wp2
            go_quiet (fail)
            have HO1 := Lib.hid (HO.out.later (below_drewN (Below.refl wr.heap.size wr) nq))
            have HB1 := Lib.hid (below_drewN HB.out nq)
            generalize wr.drewN nq = w1 at *
            clear c0 c1 x0 x1 HO HB
            obtain ⟨c0, c1, x0, x1⟩ := HK.out _ HB1.out
            have HN2 := Lib.hid (Gs.one encN w1 ⟨xs, xi⟩ #[.string xs, .int .i64 xi] rfl 75 (0, 0))
            have HL2 := Lib.hid (below_allocF HB1.out (.cells #[.string xs, .int .i64 xi] 75))
            have HA2 := Lib.hid (HO1.out.alloc (.cells #[.string xs, .int .i64 xi] 75))
            have k2 := HK.out _ HL2.out
            go_wp2_with (refine wpList_append_gen encN rfl (.tmp 26) (.tmp 28) 61 rfl Tryz.underlying61 nzero 24 infoN rfl (by decide) wA.heap.size _ _ rfl HA2.out _ 1 1 [⟨xs, xi⟩] rfl HN2.out (fun h => by cases h) HZ1.out HL2.out.size ?_; intro v2 w2 ho2 hg2; have HO2 := Lib.hid ho2; have HB2 : Hid (Below wA.heap.size wA w2) := Lib.hid (below_new_gw HL2.out HA2.out hg2 HL2.out.size); have kk := HK.out _ HB2.out; clear ho2 hg2)
            obtain ⟨c0, c1, x0, x1⟩ := kk
            clear k2
            go_wp2
            go_quiet (fail)
            have HO3 := Lib.hid (HO2.out.later (below_drewN (Below.refl w2.heap.size w2) nq))
            have HB3 := Lib.hid (below_drewN HB2.out nq)
            generalize w2.drewN nq = w3 at *
            clear c0 c1 x0 x1 HO2 HB2
            obtain ⟨c0, c1, x0, x1⟩ := HK.out _ HB3.out
            have HN4 := Lib.hid (Gs.one encN w3 ⟨ys, yi⟩ #[.string ys, .int .i64 yi] rfl 75 (0, 0))
            have HL4 := Lib.hid (below_allocF HB3.out (.cells #[.string ys, .int .i64 yi] 75))
            have HA4 := Lib.hid (HO3.out.alloc (.cells #[.string ys, .int .i64 yi] 75))
            have k4 := HK.out _ HL4.out
            go_wp2_with (refine wpList_append_gen encN rfl (.tmp 38) (.tmp 43) 61 rfl Tryz.underlying61 nzero 24 infoN rfl (by decide) wA.heap.size _ _ rfl HA4.out _ 1 1 [⟨ys, yi⟩] rfl HN4.out (fun h => by cases h) HZ2.out HL4.out.size ?_; intro v4 w4 ho4 hg4; have HO4 := Lib.hid ho4; have HB4 : Hid (Below wA.heap.size wA w4) := Lib.hid (below_new_gw HL4.out HA4.out hg4 HL4.out.size); have kk := HK.out _ HB4.out; clear ho4 hg4)
            clear kk
            refine ⟨?_, by simp [intOf]; omega⟩
            first
              | exact ⟨k + 1, _, true, by omega, by go_num, rfl, HO4, HF, HB4⟩
              | ((repeat apply Exists.intro); refine ⟨?_, rfl⟩; exact ⟨k + 1, _, true, by omega, by go_num, rfl, HO4, HF, HB4⟩)
          · have h2 : Op.bytesLess ys.toList xs.toList = true := less_true (slt_total hg (fun e => he e.symm))
            have HF : Hid ((o ++ [⟨ys, yi⟩]) ++ putR ⟨xs, xi⟩ (L.drop (k + 1)) false = putQ L ⟨xs, xi⟩) := Lib.hid (by have := HE.out; rw [HS.out, if_neg he, sgt_false hg] at this; rw [← this]; simp)
            have HZ1 : Hid (o.length + 1 ≤ 2097152) := Lib.hid (by have h2 := HLN.out; rw [← HF.out] at h2; simp at h2; omega)
            clear HS HE he hg
            go_wp2
            go_quiet (fail)
            have HO1 := Lib.hid (HO.out.later (below_drewN (Below.refl wr.heap.size wr) nq))
            have HB1 := Lib.hid (below_drewN HB.out nq)
            generalize wr.drewN nq = w1 at *
            clear c0 c1 x0 x1 HO HB
            obtain ⟨c0, c1, x0, x1⟩ := HK.out _ HB1.out
            go_wp2
            go_quiet (fail)
            have HO2 := Lib.hid (HO1.out.later (below_drewN (Below.refl w1.heap.size w1) nq))
            have HB2 := Lib.hid (below_drewN HB1.out nq)
            generalize w1.drewN nq = w2 at *
            clear c0 c1 x0 x1 HO1 HB1
            obtain ⟨c0, c1, x0, x1⟩ := HK.out _ HB2.out
            have HN3 := Lib.hid (Gs.one encN w2 ⟨ys, yi⟩ #[.string ys, .int .i64 yi] rfl 75 (0, 0))
            have HL3 := Lib.hid (below_allocF HB2.out (.cells #[.string ys, .int .i64 yi] 75))
            have HA3 := Lib.hid (HO2.out.alloc (.cells #[.string ys, .int .i64 yi] 75))
            have k3 := HK.out _ HL3.out
            go_wp2_with (refine wpList_append_gen encN rfl (.tmp 38) (.tmp 43) 61 rfl Tryz.underlying61 nzero 24 infoN rfl (by decide) wA.heap.size _ _ rfl HA3.out _ 1 1 [⟨ys, yi⟩] rfl HN3.out (fun h => by cases h) HZ1.out HL3.out.size ?_; intro v3 w3 ho3 hg3; have HO3 := Lib.hid ho3; have HB3 : Hid (Below wA.heap.size wA w3) := Lib.hid (below_new_gw HL3.out HA3.out hg3 HL3.out.size); have kk := HK.out _ HB3.out; clear ho3 hg3)
            clear kk
            refine ⟨?_, by simp [intOf]; omega⟩
            first
              | exact ⟨k + 1, _, false, by omega, by go_num, rfl, HO3, HF, HB3⟩
              | ((repeat apply Exists.intro); refine ⟨?_, rfl⟩; exact ⟨k + 1, _, false, by omega, by go_num, rfl, HO3, HF, HB3⟩)
        · have HF : Hid ((o ++ [⟨ys, yi⟩]) ++ putR ⟨xs, xi⟩ (L.drop (k + 1)) true = putQ L ⟨xs, xi⟩) := Lib.hid (by have := HE.out; rw [HS.out, if_neg he] at this; rw [← this]; simp)
          have HZ1 : Hid (o.length + 1 ≤ 2097152) := Lib.hid (by have h2 := HLN.out; rw [← HF.out] at h2; simp at h2; omega)
          clear HS HE he
          go_wp2
          go_quiet (fail)
          have HO1 := Lib.hid (HO.out.later (below_drewN (Below.refl wr.heap.size wr) nq))
          have HB1 := Lib.hid (below_drewN HB.out nq)
          generalize wr.drewN nq = w1 at *
          clear c0 c1 x0 x1 HO HB
          obtain ⟨c0, c1, x0, x1⟩ := HK.out _ HB1.out
          go_wp2
          go_quiet (fail)
          have HO2 := Lib.hid (HO1.out.later (below_drewN (Below.refl w1.heap.size w1) nq))
          have HB2 := Lib.hid (below_drewN HB1.out nq)
          generalize w1.drewN nq = w2 at *
          clear c0 c1 x0 x1 HO1 HB1
          obtain ⟨c0, c1, x0, x1⟩ := HK.out _ HB2.out
          have HN3 := Lib.hid (Gs.one encN w2 ⟨ys, yi⟩ #[.string ys, .int .i64 yi] rfl 75 (0, 0))
          have HL3 := Lib.hid (below_allocF HB2.out (.cells #[.string ys, .int .i64 yi] 75))
          have HA3 := Lib.hid (HO2.out.alloc (.cells #[.string ys, .int .i64 yi] 75))
          have k3 := HK.out _ HL3.out
          go_wp2_with (refine wpList_append_gen encN rfl (.tmp 38) (.tmp 43) 61 rfl Tryz.underlying61 nzero 24 infoN rfl (by decide) wA.heap.size _ _ rfl HA3.out _ 1 1 [⟨ys, yi⟩] rfl HN3.out (fun h => by cases h) HZ1.out HL3.out.size ?_; intro v3 w3 ho3 hg3; have HO3 := Lib.hid ho3; have HB3 : Hid (Below wA.heap.size wA w3) := Lib.hid (below_new_gw HL3.out HA3.out hg3 HL3.out.size); have kk := HK.out _ HB3.out; clear ho3 hg3)
          clear kk
          refine ⟨?_, by simp [intOf]; omega⟩
          first
            | exact ⟨k + 1, _, true, by omega, by go_num, rfl, HO3, HF, HB3⟩
            | ((repeat apply Exists.intro); refine ⟨?_, rfl⟩; exact ⟨k + 1, _, true, by omega, by go_num, rfl, HO3, HF, HB3⟩)
    · obtain rfl : k = n := by omega
      obtain ⟨x0, x1⟩ := HX.out _ HB.out
      cases tb
      · have HF : Hid (o ++ [⟨xs, xi⟩] = putQ L ⟨xs, xi⟩) := Lib.hid (by
          have h := HE.out
          rw [List.drop_of_length_le (by rw [HL.out]; omega)] at h
          exact h)
        have HZ1 : Hid (o.length + 1 ≤ 2097152) := Lib.hid (by have h2 := HLN.out; rw [← HF.out] at h2; simp at h2; omega)
        have HK : Hid (∀ W, Below wA.heap.size wA W → True) := Lib.hid fun _ _ => trivial
        clear HE
        have HN1 := Lib.hid (Gs.one encN wr ⟨xs, xi⟩ #[.string xs, .int .i64 xi] rfl 75 (0, 0))
        have HL1 := Lib.hid (below_allocF HB.out (.cells #[.string xs, .int .i64 xi] 75))
        have HA1 := Lib.hid (HO.out.alloc (.cells #[.string xs, .int .i64 xi] 75))
        have k1 := HK.out _ HL1.out
        go_wp2_with (refine wpList_append_gen encN rfl (.tmp 47) (.tmp 49) 61 rfl Tryz.underlying61 nzero 24 infoN rfl (by decide) wA.heap.size _ _ rfl HA1.out _ 1 1 [⟨xs, xi⟩] rfl HN1.out (fun h => by cases h) HZ1.out HL1.out.size ?_; intro v1 w1 ho1 hg1; have HO1 := Lib.hid ho1; have HB1 : Hid (Below wA.heap.size wA w1) := Lib.hid (below_new_gw HL1.out HA1.out hg1 HL1.out.size); have kk := HK.out _ HB1.out; clear ho1 hg1)
        clear kk k1
        go_wp2
        go_ret
        exact ⟨_, rfl, by rw [← HF.out]; exact HO1.out.mono HBA.out.size, below_step HBA.out HB1.out⟩
      · have HF : Hid (o = putQ L ⟨xs, xi⟩) := Lib.hid (by
          have h := HE.out
          rw [List.drop_of_length_le (by rw [HL.out]; omega)] at h
          simpa [putR] using h)
        go_wp2
        go_ret
        exact ⟨_, rfl, by rw [← HF.out]; exact HO.out.mono HBA.out.size, below_step HBA.out HB.out⟩
end Go.Proofs.YtncbgddgkpaoeaaGreat

namespace Go.Proofs.YtncbgddgkpaoeaaGreat
set_option linter.unusedVariables false
open Go.RowKit Go.Lib

theorem base_drop {L : List Nd} {k : Nat} (h : k < L.length) : baseP (L.drop k) = putQ (baseP (L.drop (k + 1))) (L.getD k nd0) := by
  rw [List.drop_eq_getElem_cons h, List.getD_eq_getElem?_getD, List.getElem?_eq_getElem h]
  rfl
theorem behP_zero (F : Fd) : behP F 0 = baseP F.l := rfl
theorem mem_getD {α : Type} {L : List α} {j : Nat} {d : α} (h : j < L.length) : L.getD j d ∈ L := by
  rw [List.getD_eq_getElem?_getD, List.getElem?_eq_getElem h]
  exact List.getElem_mem h
theorem baseP_bound (L : List Nd) (k : Nat) : (baseP (L.drop k)).length ≤ L.length := Nat.le_trans (baseP_length _) (by rw [List.length_drop]; omega)

set_option maxRecDepth 100000 in
set_option maxHeartbeats 4000000 in
theorem rbehind_any (x : Fo) (n : Int) (w : World) (h : Fo.fit w x) (ho : x.fd.ok) (hn : InI n) :
    Calls Tryz.prog 68 #[x.v, .int .i64 n] w fun e w' => ∃ v, e = .returned v ∧ Gw encN w' w.heap.size v (behP x.fd n.toNat) ∧ Below w.heap.size w w' := by
  obtain ⟨hnm, hll, hml⟩ := Fo.len h ho
  have HBE := Lib.hid (behP_length x.fd)
  have HST := Lib.hid fun k hk => behP_step (F := x.fd) (n := k) hk
  have HAL := Lib.hid fun k (hk : x.fd.p.length ≤ k) => behP_all (F := x.fd) (n := k) hk
  have HCK := Lib.hid ho.2.1
  have HF0 := Lib.hid (behP_zero x.fd)
  obtain ⟨p, l, c, q, m, d, L, M⟩ := x
  dsimp only at hnm hll hml
  have HLL := Lib.hid hll
  have HML := Lib.hid hml
  have hl : l ≤ 1048576 := by omega
  have hm : m ≤ 1048576 := by omega
  have HNM := Lib.hid hnm
  generalize hF : Fo.fd ⟨p, l, c, q, m, d, L, M⟩ = F at *
  have HFL : Hid (F.l = L) := Lib.hid (by rw [← hF]; rfl)
  have HFM : Hid (F.p = M) := Lib.hid (by rw [← hF]; rfl)
  unfold Fo.v
  obtain ⟨wA, hA⟩ : ∃ A, w.alloc (.cells #[.slice p l c, .slice q m d] 64) = A := ⟨_, rfl⟩
  have HBA : Hid (Below w.heap.size w wA) := Lib.hid (by rw [← hA]; exact below_allocF (Below.refl _ _) _)
  have HI : Hid (Fw wA w.heap.size ⟨p, l, c, q, m, d, L, M⟩) := Lib.hid (by rw [← hA]; exact heap_alloc_new _ _)
  have HFA := Lib.hid (h.later HBA.out)
  have HB0 := Lib.hid (Below.refl wA.heap.size wA)
  have HO0 : Hid (Gw encN wA wA.heap.size (.slice none 0 0) (baseP (L.drop l))) := Lib.hid (by rw [List.drop_of_length_le (by omega)]; exact Gw.nil encN wA wA.heap.size)
  obtain ⟨i0, i1⟩ := HI.out.cells
  obtain ⟨hn0, hn1⟩ := hn
  clear h ho hnm hll hml hF
  go_enter Tryz.func68, Tryz.ntmps68
  go_wp2
  clear hA i0 i1
  go_loopw [5, 6] (fun v i wr => ∃ k : Nat, k ≤ l ∧ i = .int .i64 ((k : Int) - 1) ∧ Hid (Gw encN wr wA.heap.size v (baseP (L.drop k))) ∧ Hid (Below wA.heap.size wA wr)) (fun _ i _ => (intOf i + 1).toNat)
  case atStart => exact ⟨l, Nat.le_refl _, rfl, HO0, HB0⟩
  case round =>
    clear HO0 HB0
    obtain ⟨k, hk, rfl, HO, HB⟩ := hrel
    by_cases hk0 : k = 0
    · subst hk0
      have HO2 : Hid (Gw encN wr wA.heap.size u5 (behP F 0)) := Lib.hid (by rw [HF0.out, HFL.out]; exact HO.out)
      clear HO
      obtain ⟨i0, i1⟩ := (HI.out.later HB.out).cells
      go_wp2
      clear i0 i1
      go_loopw [5, 7] (fun v i wr => ∃ k : Nat, k ≤ m ∧ (k : Int) ≤ (n.toNat : Int) ∧ i = .int .i64 (k : Int) ∧ Hid (Gw encN wr wA.heap.size v (behP F k)) ∧ Hid (Below wA.heap.size wA wr)) (fun _ i _ => m - (intOf i).toNat)
      case atStart => exact ⟨0, by omega, by omega, rfl, HO2, HB⟩
      case round =>
        clear HO2 HB
        obtain ⟨k, hk, hkn, rfl, HO, HB⟩ := hrel
        obtain ⟨i0, i1⟩ := (HI.out.later HB.out).cells
        by_cases hlt : k < m
        · by_cases hkN : (k : Int) < n
          · obtain ⟨b, off, rfl, c0, c1, c2, c3⟩ := (HFA.out.2.2.2.1.later HB.out).cg k hlt
            have hkm : (k : Int) < (m : Int) := by omega
            have hk0 : (0 : Int) ≤ (k : Int) := by omega
            have hst := HST.out k (by rw [HFM.out, HML.out]; exact hlt)
            rw [HFM.out] at hst
            generalize M.getD k cg0 = cc at *
            obtain ⟨ck, ca, cb, ci⟩ := cc
            dsimp only at c0 c1 c2 c3
            have hlb := HBE.out k
            rw [HFL.out, HFM.out, HLL.out, HML.out] at hlb
            obtain ⟨p5, c5, hv5, _, _, hs5, _⟩ := HO.out.open
            obtain ⟨w1, hw1⟩ : ∃ W, wr.alloc (.cells #[.int .i64 ck, .string ca, .string cb, .int .i64 ci] 106) = W := ⟨_, rfl⟩
            obtain ⟨G, hG⟩ : ∃ G, wr.heap.size = G := ⟨_, rfl⟩
            have hx1 : Below wr.heap.size wr w1 := by rw [← hw1]; exact below_allocF (Below.refl _ _) _
            have HC1 : Hid (Cgw w1 G ⟨ck, ca, cb, ci⟩) := Lib.hid (by rw [← hw1, ← hG]; exact heap_alloc_new _ _)
            have HB1 := Lib.hid (below_step HB.out hx1)
            have HS1 := Lib.hid (hs5.later hx1)
            have HO1 := Lib.hid (HO.out.later hx1)
            have HI1 := Lib.hid (HI.out.later HB1.out)
            generalize hK : behP F k = K at *
            have HLB : Hid (K.length ≤ 1048576) := Lib.hid (by have := HNM.out; omega)
            have HFD := Lib.hid (rfind_any p5 _ c5 K ca w1 HS1.out (by have := HLB.out; omega))
            obtain ⟨o, hfo⟩ : ∃ o, findP K ca = o := ⟨_, rfl⟩
            rw [hfo] at HFD
            subst hv5
            obtain ⟨g0, g1, g2, g3⟩ := HC1.out.cells
            clear hx1 hs5 HO hK hlb
            by_cases h1 : ck = 1
            · have HN : Hid (behP F (k + 1) = putQ K ⟨ca, ci⟩) := Lib.hid (by rw [hst, chgP, if_pos h1])
              subst h1
              clear hst hfo
              cases o <;> unfold fndV at HFD <;> dsimp only [Option.getD_none, Option.getD_some, Option.isSome_none, Option.isSome_some] at HFD
              all_goals
                go_wp2_with fail
                clear hw1 hG c0 c1 c2 c3 i0 i1
                refine HFD.out.mono ?_
                rintro e w' ⟨rfl, rfl⟩
                go_wp2_with fail
                refine (rput_any p5 _ c5 _ ⟨ca, ci⟩ w1 HS1.out HLB.out).mono ?_
                rintro e2 w2 ⟨v2, rfl, ho2, hb2⟩
                have HO2 : Hid (Gw encN w2 wA.heap.size v2 (behP F (k + 1))) := Lib.hid (by rw [HN.out]; exact ho2.mono HB1.out.size)
                have HB2 := Lib.hid (below_step HB1.out hb2)
                obtain ⟨g0, g1, g2, g3⟩ := (HC1.out.later hb2).cells
                clear ho2 hb2
                go_wp2
                refine ⟨?_, by simp [intOf]; omega⟩
                first
                  | exact ⟨k + 1, by omega, by omega, by go_num, HO2, HB2⟩
                  | ((repeat apply Exists.intro); refine ⟨?_, rfl⟩; exact ⟨k + 1, by omega, by omega, by go_num, HO2, HB2⟩)
            have k1 : (ck == 1) = false := by simpa using h1
            by_cases h2 : ck = 2
            · cases o with
              | none =>
                have HN : Hid (Gw encN w1 wA.heap.size (.slice p5 K.length c5) (behP F (k + 1))) := Lib.hid (by rw [hst, chgP, if_neg h1, if_pos h2]; dsimp only; rw [hfo]; exact HO1.out)
                subst h2
                clear hst hfo h1
                unfold fndV at HFD
                dsimp only [Option.getD_none, Option.isSome_none] at HFD
                go_wp2_with fail
                clear hw1 hG c0 c1 c2 c3 i0 i1
                refine HFD.out.mono ?_
                rintro e w' ⟨rfl, rfl⟩
                go_wp2
                refine ⟨?_, by simp [intOf]; omega⟩
                first
                  | exact ⟨k + 1, by omega, by omega, by go_num, HN, HB1⟩
                  | ((repeat apply Exists.intro); refine ⟨?_, rfl⟩; exact ⟨k + 1, by omega, by omega, by go_num, HN, HB1⟩)
              | some i =>
                have HN : Hid (behP F (k + 1) = putQ (outP K ca) ⟨cb, i⟩) := Lib.hid (by rw [hst, chgP, if_neg h1, if_pos h2]; dsimp only; rw [hfo])
                subst h2
                clear hst hfo h1
                unfold fndV at HFD
                dsimp only [Option.getD_some, Option.isSome_some] at HFD
                go_wp2_with fail
                clear hw1 hG c0 c1 c2 c3 i0 i1
                refine HFD.out.mono ?_
                rintro e w' ⟨rfl, rfl⟩
                have HK : Hid (∀ W, Below w1.heap.size w1 W → W.cell? ⟨G, 0, none⟩ = some (.int .i64 2) ∧ W.cell? ⟨G, 1, none⟩ = some (.string ca) ∧ W.cell? ⟨G, 2, none⟩ = some (.string cb) ∧ W.cell? ⟨G, 3, none⟩ = some (.int .i64 ci)) := Lib.hid fun W hW => (HC1.out.later hW).cells
                have HD1 := Lib.hid (below_drewF (Below.refl w1.heap.size w1))
                have s0 := HK.out _ (Below.refl _ _)
                have s1 := HK.out _ HD1.out
                clear g0 g1 g2 g3
                obtain ⟨g0, g1, g2, g3⟩ := s0
                have s0 := HK.out _ (Below.refl _ _)
                go_wp2
                clear g0 g1 g2 g3
                go_region_held3 (fun W => W.cell? ⟨G, 0, none⟩ = some (.int .i64 2) ∧ W.cell? ⟨G, 1, none⟩ = some (.string ca) ∧ W.cell? ⟨G, 2, none⟩ = some (.string cb) ∧ W.cell? ⟨G, 3, none⟩ = some (.int .i64 ci)) (first | exact s0 | exact s1 | exact s2 | exact s3) (first
                  | (go_at_call 94; refine (rwithout_any p5 _ c5 K ca _ (HS1.out.later HD1.out) HLB.out).mono ?_; rintro e2 w2 ⟨v2, rfl, ho2, hb2⟩; obtain ⟨p2, c2', hv2, _, _, hs2, _⟩ := ho2.open; subst hv2; have HS2 := Lib.hid hs2; have HB2 := Lib.hid (below_step HD1.out hb2); have s2 := HK.out _ HB2.out; clear ho2 hb2 hs2)
                  | (go_at_call 93; refine (rput_any p2 _ c2' _ ⟨cb, i⟩ _ HS2.out (Nat.le_trans (outP_length _ _) HLB.out)).mono ?_; rintro e3 w3 ⟨v3, rfl, ho3, hb3⟩; have HO3 : Hid (Gw encN w3 wA.heap.size v3 (behP F (k + 1))) := Lib.hid (by rw [HN.out]; exact ho3.mono (Nat.le_trans HB1.out.size HB2.out.size)); have HB3 := Lib.hid (below_step HB2.out hb3); have s3 := HK.out _ HB3.out; clear ho3 hb3))
                obtain ⟨g0, g1, g2, g3⟩ := s3
                have HB4 := Lib.hid (below_step HB1.out HB3.out)
                go_wp2
                refine ⟨?_, by simp [intOf]; omega⟩
                first
                  | exact ⟨k + 1, by omega, by omega, by go_num, HO3, HB4⟩
                  | ((repeat apply Exists.intro); refine ⟨?_, rfl⟩; exact ⟨k + 1, by omega, by omega, by go_num, HO3, HB4⟩)
            have k2 : (ck == 2) = false := by simpa using h2
            by_cases h3 : ck = 3
            · have HN : Hid (behP F (k + 1) = outP K ca) := Lib.hid (by rw [hst, chgP, if_neg h1, if_neg h2, if_pos h3])
              subst h3
              clear hst hfo h1 h2
              cases o <;> unfold fndV at HFD <;> dsimp only [Option.getD_none, Option.getD_some, Option.isSome_none, Option.isSome_some] at HFD
              all_goals
                go_wp2_with fail
                clear hw1 hG c0 c1 c2 c3 i0 i1
                refine HFD.out.mono ?_
                rintro e w' ⟨rfl, rfl⟩
                go_wp2_with fail
                refine (rwithout_any p5 _ c5 _ ca w1 HS1.out HLB.out).mono ?_
                rintro e2 w2 ⟨v2, rfl, ho2, hb2⟩
                have HO2 : Hid (Gw encN w2 wA.heap.size v2 (behP F (k + 1))) := Lib.hid (by rw [HN.out]; exact ho2.mono HB1.out.size)
                have HB2 := Lib.hid (below_step HB1.out hb2)
                obtain ⟨g0, g1, g2, g3⟩ := (HC1.out.later hb2).cells
                clear ho2 hb2
                go_wp2
                refine ⟨?_, by simp [intOf]; omega⟩
                first
                  | exact ⟨k + 1, by omega, by omega, by go_num, HO2, HB2⟩
                  | ((repeat apply Exists.intro); refine ⟨?_, rfl⟩; exact ⟨k + 1, by omega, by omega, by go_num, HO2, HB2⟩)
            · have k3 : (ck == 3) = false := by simpa using h3
              have HN : Hid (Gw encN w1 wA.heap.size (.slice p5 K.length c5) (behP F (k + 1))) := Lib.hid (by rw [hst, chgP, if_neg h1, if_neg h2, if_neg h3]; exact HO1.out)
              clear hst hfo h1 h2 h3
              cases o <;> unfold fndV at HFD <;> dsimp only [Option.getD_none, Option.getD_some, Option.isSome_none, Option.isSome_some] at HFD
              all_goals
                go_wp2_with fail
                clear hw1 hG c0 c1 c2 c3 i0 i1
                refine HFD.out.mono ?_
                rintro e w' ⟨rfl, rfl⟩
                go_wp2
                refine ⟨?_, by simp [intOf]; omega⟩
                first
                  | exact ⟨k + 1, by omega, by omega, by go_num, HN, HB1⟩
                  | ((repeat apply Exists.intro); refine ⟨?_, rfl⟩; exact ⟨k + 1, by omega, by omega, by go_num, HN, HB1⟩)
          · have HT : Hid (behP F k = behP F n.toNat) := Lib.hid (by congr 1; omega)
            have hkm : (k : Int) < (m : Int) := by omega
            have hkN' : n ≤ (k : Int) := by omega
            clear hkN
            go_wp2
            go_ret
            exact ⟨_, rfl, by rw [← HT.out]; exact HO.out.mono HBA.out.size, below_step HBA.out HB.out⟩
        · obtain rfl : k = m := by omega
          have HT : Hid (behP F k = behP F n.toNat) := Lib.hid (by rw [HAL.out k (by rw [HFM.out, HML.out]; exact Nat.le_refl _), HAL.out n.toNat (by rw [HFM.out, HML.out]; omega)])
          go_wp2
          go_ret
          exact ⟨_, rfl, by rw [← HT.out]; exact HO.out.mono HBA.out.size, below_step HBA.out HB.out⟩
    · obtain ⟨j, rfl⟩ : ∃ j, k = j + 1 := ⟨k - 1, by omega⟩
      have e : (((j + 1 : Nat) : Int) - 1) = (j : Int) := by omega
      rw [e]
      clear hk0 e
      have hlt : j < l := by omega
      obtain ⟨b, off, rfl, c0, c1⟩ := (HFA.out.1.later HB.out).nd j hlt
      obtain ⟨i0, i1⟩ := (HI.out.later HB.out).cells
      have hkn : (j : Int) < (l : Int) := by omega
      have hk0 : (0 : Int) ≤ (j : Int) := by omega
      have HS := Lib.hid (base_drop (L := L) (k := j) (by rw [HLL.out]; exact hlt))
      have HLB := Lib.hid (Nat.le_trans (baseP_bound L (j + 1)) (by rw [HLL.out]; exact hl))
      obtain ⟨p5, c5, hv5, _, _, hs5, _⟩ := HO.out.open
      have HS5 := Lib.hid hs5
      generalize L.getD j nd0 = y at *
      obtain ⟨ys, yi⟩ := y
      dsimp only at c0 c1 HS
      subst hv5
      clear hs5 HO
      go_wp2_with fail
      refine (rput_any p5 _ c5 _ ⟨ys, yi⟩ wr HS5.out HLB.out).mono ?_
      rintro e2 w2 ⟨v2, rfl, ho2, hb2⟩
      have HO2 : Hid (Gw encN w2 wA.heap.size v2 (baseP (L.drop j))) := Lib.hid (by rw [HS.out]; exact ho2.mono HB.out.size)
      have HB2 := Lib.hid (below_step HB.out hb2)
      clear ho2 hb2 c0 c1 i0 i1
      go_wp2
      refine ⟨?_, by simp [intOf] <;> omega⟩
      first
        | exact ⟨j, by omega, by go_num, HO2, HB2⟩
        | ((repeat apply Exists.intro); refine ⟨?_, rfl⟩; exact ⟨j, by omega, by go_num, HO2, HB2⟩)

set_option maxRecDepth 100000 in
theorem rfnow_any (x : Fo) (w : World) (h : Fo.fit w x) (ho : x.fd.ok) :
    Calls Tryz.prog 34 #[x.v] w fun e w' => ∃ v, e = .returned v ∧ Gw encN w' w.heap.size v (nowQ x.fd) ∧ Below w.heap.size w w' := by
  obtain ⟨hnm, hll, hml⟩ := Fo.len h ho
  have HBH := Lib.hid fun W (hW : Fo.fit W x) => rbehind_any x (x.m : Int) W hW ho ⟨by omega, by omega⟩
  have HN : Hid (behP x.fd (x.m : Int).toNat = nowQ x.fd) := Lib.hid (behP_all (by rw [Int.toNat_natCast]; show x.M.length ≤ x.m; rw [hml]; exact Nat.le_refl _))
  rw [HN.out] at HBH
  obtain ⟨p, l, c, q, m, d, L, M⟩ := x
  dsimp only at hnm hll hml HBH
  generalize hF : Fo.fd ⟨p, l, c, q, m, d, L, M⟩ = F at *
  have HF := Lib.hid h
  unfold Fo.v at HBH ⊢
  dsimp only at HBH ⊢
  obtain ⟨wA, hA⟩ : ∃ A, w.alloc (.cells #[.slice p l c, .slice q m d] 64) = A := ⟨_, rfl⟩
  have HBA : Hid (Below w.heap.size w wA) := Lib.hid (by rw [← hA]; exact below_allocF (Below.refl _ _) _)
  have HI : Hid (Fw wA w.heap.size ⟨p, l, c, q, m, d, L, M⟩) := Lib.hid (by rw [← hA]; exact heap_alloc_new _ _)
  obtain ⟨i0, i1⟩ := HI.out.cells
  clear h ho hnm hll hml hF HN
  go_enter Tryz.func34, Tryz.ntmps34
  go_wp2_with fail
  clear hA i0 i1
  refine (HBH.out wA (HF.out.later HBA.out)).mono ?_
  rintro e2 w2 ⟨v2, rfl, ho2, hb2⟩
  have HO2 := Lib.hid (ho2.mono HBA.out.size)
  have HB2 := Lib.hid (below_step HBA.out hb2)
  clear ho2 hb2
  go_wp2
  go_ret
  exact ⟨_, rfl, HO2.out, HB2.out⟩

set_option maxRecDepth 100000 in
theorem rffind_any (x : Fo) (s : ByteArray) (w : World) (h : Fo.fit w x) (ho : x.fd.ok) :
    Calls Tryz.prog 32 #[x.v, .string s] w fun e w' => e = .returned (fndV (findP (nowQ x.fd) s)) ∧ Below w.heap.size w w' := by
  obtain ⟨hnm, hll, hml⟩ := Fo.len h ho
  have HBH := Lib.hid fun W (hW : Fo.fit W x) => rfnow_any x W hW ho
  have HLN : Hid ((nowQ x.fd).length ≤ 1048576) := Lib.hid (Nat.le_trans (behP_length _ _) (by show x.L.length + x.M.length ≤ _; omega))
  obtain ⟨p, l, c, q, m, d, L, M⟩ := x
  dsimp only at hnm hll hml HBH
  generalize hF : Fo.fd ⟨p, l, c, q, m, d, L, M⟩ = F at *
  have HF := Lib.hid h
  unfold Fo.v at HBH ⊢
  dsimp only at HBH ⊢
  obtain ⟨wA, hA⟩ : ∃ A, w.alloc (.cells #[.slice p l c, .slice q m d] 64) = A := ⟨_, rfl⟩
  have HBA : Hid (Below w.heap.size w wA) := Lib.hid (by rw [← hA]; exact below_allocF (Below.refl _ _) _)
  have HI : Hid (Fw wA w.heap.size ⟨p, l, c, q, m, d, L, M⟩) := Lib.hid (by rw [← hA]; exact heap_alloc_new _ _)
  obtain ⟨i0, i1⟩ := HI.out.cells
  clear h ho hnm hll hml hF
  go_enter Tryz.func32, Tryz.ntmps32
  go_wp2_with fail
  clear hA i0 i1
  refine (HBH.out wA (HF.out.later HBA.out)).mono ?_
  rintro e2 w2 ⟨v2, rfl, ho2, hb2⟩
  obtain ⟨p2, c2, hv2, _, _, hs2, _⟩ := ho2.open
  subst hv2
  have HS2 := Lib.hid hs2
  have HB2 := Lib.hid (below_step HBA.out hb2)
  clear ho2 hb2 hs2
  go_wp2_with fail
  refine (rfind_any p2 _ c2 _ s w2 HS2.out (Nat.le_trans HLN.out (by decide))).mono ?_
  rintro e3 w3 ⟨rfl, rfl⟩
  unfold fndV
  go_wp2
  go_ret2
  exact ⟨rfl, HB2.out⟩
end Go.Proofs.YtncbgddgkpaoeaaGreat

namespace Go.Proofs.YtncbgddgkpaoeaaGreat
set_option linter.unusedVariables false
open Go.RowKit Go.Lib

theorem irises_len {l m : List Int} (h : irises l) (hm : ∀ i ∈ l, i ∈ m) : l.length ≤ m.length := by
  induction l generalizing m with
  | nil => simp
  | cons a l ih =>
    obtain ⟨h1, h2⟩ := List.pairwise_cons.1 h
    have ha := hm a List.mem_cons_self
    have := ih (m := m.erase a) h2 fun i hi => (List.mem_erase_of_ne (by have := h1 i hi; omega)).2 (hm i (List.mem_cons_of_mem _ hi))
    rw [List.length_erase_of_mem ha] at this
    have hp := List.length_pos_of_mem ha
    simp only [List.length_cons]
    omega
theorem find_in {l : List Nd} {s : ByteArray} {i : Int} (h : findP l s = some i) : i ∈ l.map Nd.id := by
  induction l with
  | nil => cases h
  | cons x l ih =>
    rw [findP] at h
    by_cases e : x.s = s
    · rw [if_pos e] at h
      simp only [Option.some.injEq] at h
      rw [List.map_cons, h]
      exact List.mem_cons_self
    · rw [if_neg e] at h
      exact List.mem_cons_of_mem _ (ih h)
theorem ids_bound {F : Fd} {l : List Int} (h : irises l) (hm : ∀ i ∈ l, i ∈ idsP F) : l.length ≤ F.l.length + F.p.length := by
  have := irises_len (m := F.l.map Nd.id ++ F.p.map Cg.id) h fun i hi => by
    rcases (mem_idsP' F i).1 (hm i hi) with ⟨s, hs⟩ | ⟨c, hc, _, rfl⟩
    · exact List.mem_append_left _ (find_in hs)
    · exact List.mem_append_right _ (List.mem_map_of_mem hc)
  simpa using this
/-- the numbers, so far as the names behind k changes have been gone through up to j -/
def idsM (F : Fd) (k j : Nat) : List Int := ((behP F k).take j).foldl (fun o x => putI o x.id) (idsN F k)
theorem idsM_both (F : Fd) (k j : Nat) (hk : k ≤ F.p.length) : irises (idsM F k j) ∧ ∀ i ∈ idsM F k j, i ∈ idsP F := by
  obtain ⟨h1, h2⟩ := idsN_both F k
  obtain ⟨h3, h4⟩ := foldI_both ((behP F k).take j) h1
  refine ⟨h3, fun i hi => ?_⟩
  rw [mem_idsP]
  rcases (h4 i).1 hi with h | ⟨x, hx, h⟩
  · obtain ⟨m, hm, hh⟩ := (h2 i).1 h
    exact ⟨m, by omega, hh⟩
  · exact ⟨k, hk, x, List.mem_of_mem_take hx, h⟩
theorem idsM_len (F : Fd) (k j : Nat) (hk : k ≤ F.p.length) : (idsM F k j).length ≤ F.l.length + F.p.length := ids_bound (idsM_both F k j hk).1 (idsM_both F k j hk).2
theorem idsM_step (F : Fd) (k j : Nat) (h : j < (behP F k).length) : idsM F k (j + 1) = putI (idsM F k j) ((behP F k).getD j nd0).id := by
  unfold idsM
  rw [List.take_succ_eq_append_getElem h, List.foldl_append, List.getD_eq_getElem?_getD, List.getElem?_eq_getElem h]
  rfl
theorem idsM_end (F : Fd) (k j : Nat) (h : (behP F k).length ≤ j) : idsM F k j = idsN F (k + 1) := by
  unfold idsM
  rw [List.take_of_length_le h]
  rfl
theorem idsM_zero (F : Fd) (k : Nat) : idsM F k 0 = idsN F k := rfl
theorem putI_drop {L : List Int} {k : Nat} (h : k < L.length) (n : Int) (t : Bool) : putIR n (L.drop k) t =
    (if t = false ∧ n ≤ L.getD k 0 ∧ n < L.getD k 0 then [n] else []) ++ (L.getD k 0 :: putIR n (L.drop (k + 1)) (t || decide (n ≤ L.getD k 0))) := by
  rw [List.drop_eq_getElem_cons h, List.getD_eq_getElem?_getD, List.getElem?_eq_getElem h]
  rfl

set_option maxRecDepth 100000 in
set_option maxHeartbeats 2000000 in
theorem rputint_any (p : Option Addr) (m c : Nat) (L : List Int) (n : Int) (w : World) (h : Gs encI w p m L) (hm : m ≤ 1048576) :
    Calls Tryz.prog 118 #[.slice p m c, .int .i64 n] w fun e w' => ∃ v, e = .returned v ∧ Gw encI w' w.heap.size v (putI L n) ∧ Below w.heap.size w w' := by
  have H := Lib.hid h
  have HL := Lib.hid h.1
  have HB0 := Lib.hid (Below.refl w.heap.size w)
  have HO0 := Lib.hid (Gw.nil encI w w.heap.size)
  have HLN : Hid ((putI L n).length ≤ 1048577) := Lib.hid (Nat.le_trans (putIR_length n L false) (by rw [h.1]; simp; omega))
  clear h
  go_enter Tryz.func118, Tryz.ntmps118
  go_wp2
  go_loopw [5, 6, 7] (fun v t i wr => ∃ (k : Nat) (o : List Int) (tb : Bool), k ≤ m ∧ i = .int .i64 (k : Int) ∧ t = .bool tb ∧ Hid (Gw encI wr w.heap.size v o) ∧ Hid (o ++ putIR n (L.drop k) tb = putI L n) ∧ Hid (Below w.heap.size w wr)) (fun _ _ i _ => m - (intOf i).toNat)
  case atStart => exact ⟨0, [], false, by omega, rfl, rfl, HO0, Lib.hid (by simp [putI]), HB0⟩
  case round =>
    clear HO0 HB0
    obtain ⟨k, o, tb, hk, rfl, rfl, HO, HE, HB⟩ := hrel
    by_cases hlt : k < m
    · obtain ⟨b, off, rfl, c0⟩ := H.out.it k hlt
      have HS := Lib.hid (putI_drop (L := L) (k := k) (by rw [HL.out]; exact hlt) n tb)
      have hkn : (k : Int) < (m : Int) := by omega
      have hk0 : (0 : Int) ≤ (k : Int) := by omega
      generalize L.getD k 0 = y at *
      have HK : Hid (∀ W, Below w.heap.size w W → W.cell? ⟨b, off + k, none⟩ = some (.int .i64 y)) := Lib.hid fun W hW => by
        rw [hW.cell (World.block_lt_of_cell? w _ c0)]; exact c0
      clear c0
      have c0 := HK.out _ HB.out
      by_cases h1 : n ≤ y
      · by_cases h2 : tb = false ∧ n < y
        · obtain ⟨rfl, h3⟩ := h2
          have HF : Hid ((o ++ [n]) ++ [y] ++ putIR n (L.drop (k + 1)) true = putI L n) := Lib.hid (by have := HE.out; rw [HS.out, if_pos (by simp [h1, h3]), decide_eq_true h1] at this; rw [← this]; simp)
          have HZ1 : Hid (o.length + 1 ≤ 2097152) := Lib.hid (by have h2 := HLN.out; rw [← HF.out] at h2; simp at h2; omega)
          have HZ2 : Hid ((o ++ [n]).length + 1 ≤ 2097152) := Lib.hid (by have h2 := HLN.out; rw [← HF.out] at h2; simp at h2 ⊢; omega)
          clear HS HE
          have HN1 := Lib.hid (Gs.one encI wr n #[.int .i64 n] rfl 3 (0, 0))
          have HL1 := Lib.hid (below_allocF HB.out (.cells #[.int .i64 n] 3))
          have HA1 := Lib.hid (HO.out.alloc (.cells #[.int .i64 n] 3))
          go_wp2_with (first
            | (refine wpList_append_gen encI rfl (.tmp 30) (.tmp 32) 98 rfl Tryz.underlying98 (.int .i64 0) 8 infoI rfl (by decide) w.heap.size _ _ rfl HA1.out _ 1 1 [n] rfl HN1.out (fun h => by cases h) HZ1.out HL1.out.size ?_; intro v1 w1 ho1 hg1; have HO1 := Lib.hid ho1; have HB1 : Hid (Below w.heap.size w w1) := Lib.hid (below_new_gw HL1.out HA1.out hg1 HL1.out.size); clear ho1 hg1 c0; have c0 := HK.out _ HB1.out; have HN2 := Lib.hid (Gs.one encI w1 y #[.int .i64 y] rfl 3 (0, 0)); have HL2 := Lib.hid (below_allocF HB1.out (.cells #[.int .i64 y] 3)); have HA2 := Lib.hid (HO1.out.alloc (.cells #[.int .i64 y] 3)))
            | (refine wpList_append_gen encI rfl (.tmp 34) (.tmp 39) 98 rfl Tryz.underlying98 (.int .i64 0) 8 infoI rfl (by decide) w.heap.size _ _ rfl HA2.out _ 1 1 [y] rfl HN2.out (fun h => by cases h) HZ2.out HL2.out.size ?_; intro v2 w2 ho2 hg2; have HO2 := Lib.hid ho2; have HB2 : Hid (Below w.heap.size w w2) := Lib.hid (below_new_gw HL2.out HA2.out hg2 HL2.out.size); clear ho2 hg2))
          refine ⟨?_, by simp [intOf] <;> omega⟩
          first
            | exact ⟨k + 1, _, true, by omega, by go_num, rfl, HO2, HF, HB2⟩
            | ((repeat apply Exists.intro); refine ⟨?_, rfl⟩; exact ⟨k + 1, _, true, by omega, by go_num, rfl, HO2, HF, HB2⟩)
        · have HF : Hid (o ++ [y] ++ putIR n (L.drop (k + 1)) true = putI L n) := Lib.hid (by
            have := HE.out
            rw [HS.out, if_neg (fun h => h2 ⟨h.1, h.2.2⟩), decide_eq_true h1] at this
            rw [← this]; simp)
          have HZ1 : Hid (o.length + 1 ≤ 2097152) := Lib.hid (by have h2 := HLN.out; rw [← HF.out] at h2; simp at h2; omega)
          have HN1 := Lib.hid (Gs.one encI wr y #[.int .i64 y] rfl 3 (0, 0))
          have HL1 := Lib.hid (below_allocF HB.out (.cells #[.int .i64 y] 3))
          have HA1 := Lib.hid (HO.out.alloc (.cells #[.int .i64 y] 3))
          clear HS HE
          cases tb
          · have h3 : ¬ n < y := fun h => h2 ⟨rfl, h⟩
            clear h2
            go_wp2_with (refine wpList_append_gen encI rfl (.tmp 34) (.tmp 39) 98 rfl Tryz.underlying98 (.int .i64 0) 8 infoI rfl (by decide) w.heap.size _ _ rfl HA1.out _ 1 1 [y] rfl HN1.out (fun h => by cases h) HZ1.out HL1.out.size ?_; intro v2 w2 ho2 hg2; have HO2 := Lib.hid ho2; have HB2 : Hid (Below w.heap.size w w2) := Lib.hid (below_new_gw HL1.out HA1.out hg2 HL1.out.size); clear ho2 hg2)
            refine ⟨?_, by simp [intOf] <;> omega⟩
            first
              | exact ⟨k + 1, _, true, by omega, by go_num, rfl, HO2, HF, HB2⟩
              | ((repeat apply Exists.intro); refine ⟨?_, rfl⟩; exact ⟨k + 1, _, true, by omega, by go_num, rfl, HO2, HF, HB2⟩)
          · clear h2
            go_wp2_with (refine wpList_append_gen encI rfl (.tmp 34) (.tmp 39) 98 rfl Tryz.underlying98 (.int .i64 0) 8 infoI rfl (by decide) w.heap.size _ _ rfl HA1.out _ 1 1 [y] rfl HN1.out (fun h => by cases h) HZ1.out HL1.out.size ?_; intro v2 w2 ho2 hg2; have HO2 := Lib.hid ho2; have HB2 : Hid (Below w.heap.size w w2) := Lib.hid (below_new_gw HL1.out HA1.out hg2 HL1.out.size); clear ho2 hg2)
            refine ⟨?_, by simp [intOf] <;> omega⟩
            first
              | exact ⟨k + 1, _, true, by omega, by go_num, rfl, HO2, HF, HB2⟩
              | ((repeat apply Exists.intro); refine ⟨?_, rfl⟩; exact ⟨k + 1, _, true, by omega, by go_num, rfl, HO2, HF, HB2⟩)
      · have HF : Hid (o ++ [y] ++ putIR n (L.drop (k + 1)) tb = putI L n) := Lib.hid (by
          have := HE.out
          rw [HS.out, if_neg (fun h => h1 h.2.1), decide_eq_false h1, Bool.or_false] at this
          rw [← this]; simp)
        have HZ1 : Hid (o.length + 1 ≤ 2097152) := Lib.hid (by have h2 := HLN.out; rw [← HF.out] at h2; simp at h2; omega)
        have HN1 := Lib.hid (Gs.one encI wr y #[.int .i64 y] rfl 3 (0, 0))
        have HL1 := Lib.hid (below_allocF HB.out (.cells #[.int .i64 y] 3))
        have HA1 := Lib.hid (HO.out.alloc (.cells #[.int .i64 y] 3))
        clear HS HE
        cases tb
        all_goals
          go_wp2_with (refine wpList_append_gen encI rfl (.tmp 34) (.tmp 39) 98 rfl Tryz.underlying98 (.int .i64 0) 8 infoI rfl (by decide) w.heap.size _ _ rfl HA1.out _ 1 1 [y] rfl HN1.out (fun h => by cases h) HZ1.out HL1.out.size ?_; intro v2 w2 ho2 hg2; have HO2 := Lib.hid ho2; have HB2 : Hid (Below w.heap.size w w2) := Lib.hid (below_new_gw HL1.out HA1.out hg2 HL1.out.size); clear ho2 hg2)
          refine ⟨?_, by simp [intOf] <;> omega⟩
          first
            | exact ⟨k + 1, _, _, by omega, by go_num, rfl, HO2, HF, HB2⟩
            | ((repeat apply Exists.intro); refine ⟨?_, rfl⟩; exact ⟨k + 1, _, _, by omega, by go_num, rfl, HO2, HF, HB2⟩)
    · obtain rfl : k = m := by omega
      cases tb
      · have HF : Hid (o ++ [n] = putI L n) := Lib.hid (by
          have h := HE.out
          rw [List.drop_of_length_le (by rw [HL.out]; omega)] at h
          exact h)
        have HZ1 : Hid (o.length + 1 ≤ 2097152) := Lib.hid (by have h2 := HLN.out; rw [← HF.out] at h2; simp at h2; omega)
        have HN1 := Lib.hid (Gs.one encI wr n #[.int .i64 n] rfl 3 (0, 0))
        have HL1 := Lib.hid (below_allocF HB.out (.cells #[.int .i64 n] 3))
        have HA1 := Lib.hid (HO.out.alloc (.cells #[.int .i64 n] 3))
        clear HE
        go_wp2_with (refine wpList_append_gen encI rfl (.tmp 43) (.tmp 45) 98 rfl Tryz.underlying98 (.int .i64 0) 8 infoI rfl (by decide) w.heap.size _ _ rfl HA1.out _ 1 1 [n] rfl HN1.out (fun h => by cases h) HZ1.out HL1.out.size ?_; intro v2 w2 ho2 hg2; have HO2 := Lib.hid ho2; have HB2 : Hid (Below w.heap.size w w2) := Lib.hid (below_new_gw HL1.out HA1.out hg2 HL1.out.size); clear ho2 hg2)
        go_ret
        exact ⟨_, rfl, by rw [← HF.out]; exact HO2.out, HB2.out⟩
      · have HF : Hid (o = putI L n) := Lib.hid (by
          have h := HE.out
          rw [List.drop_of_length_le (by rw [HL.out]; omega)] at h
          simpa [putIR] using h)
        go_wp2
        go_ret
        exact ⟨_, rfl, by rw [← HF.out]; exact HO.out, HB.out⟩

set_option maxRecDepth 100000 in
set_option maxHeartbeats 2000000 in
theorem rids_any (x : Fo) (w : World) (h : Fo.fit w x) (ho : x.fd.ok) :
    Calls Tryz.prog 96 #[x.v] w fun e w' => ∃ v, e = .returned v ∧ Gw encI w' w.heap.size v (idsP x.fd) ∧ Below w.heap.size w w' := by
  obtain ⟨hnm, hll, hml⟩ := Fo.len h ho
  have HBH := Lib.hid fun (k : Nat) (hk : k ≤ 1048576) W (hW : Fo.fit W x) => rbehind_any x (k : Int) W hW ho ⟨by omega, by omega⟩
  have HBE := Lib.hid (behP_length x.fd)
  have HID := Lib.hid (idsM_len x.fd)
  have HIS := Lib.hid (idsM_step x.fd)
  have HIE := Lib.hid (idsM_end x.fd)
  have HIP : Hid (idsP x.fd = idsN x.fd (x.fd.p.length + 1)) := Lib.hid rfl
  obtain ⟨p, l, c, q, m, d, L, M⟩ := x
  dsimp only at hnm hll hml
  have HFL : Hid ((Fo.fd ⟨p, l, c, q, m, d, L, M⟩).l.length = l) := Lib.hid hll
  have HFM : Hid ((Fo.fd ⟨p, l, c, q, m, d, L, M⟩).p.length = m) := Lib.hid hml
  have hm : m ≤ 1048576 := by omega
  have HNM := Lib.hid hnm
  have HF := Lib.hid h
  have HZ : Hid (idsN (Fo.fd ⟨p, l, c, q, m, d, L, M⟩) 0 = []) := Lib.hid rfl
  have HI0 : Hid (∀ k, idsM (Fo.fd ⟨p, l, c, q, m, d, L, M⟩) k 0 = idsN (Fo.fd ⟨p, l, c, q, m, d, L, M⟩) k) := Lib.hid fun _ => rfl
  generalize Fo.fd ⟨p, l, c, q, m, d, L, M⟩ = F at *
  unfold Fo.v at HBH ⊢
  dsimp only at HBH ⊢
  obtain ⟨wA, hA⟩ : ∃ A, w.alloc (.cells #[.slice p l c, .slice q m d] 64) = A := ⟨_, rfl⟩
  have HBA : Hid (Below w.heap.size w wA) := Lib.hid (by rw [← hA]; exact below_allocF (Below.refl _ _) _)
  have HI : Hid (Fw wA w.heap.size ⟨p, l, c, q, m, d, L, M⟩) := Lib.hid (by rw [← hA]; exact heap_alloc_new _ _)
  have HFA := Lib.hid (HF.out.later HBA.out)
  have HB0 := Lib.hid (Below.refl wA.heap.size wA)
  have HO0 : Hid (Gw encI wA wA.heap.size (.slice none 0 0) (idsN F 0)) := Lib.hid (by rw [HZ.out]; exact Gw.nil encI wA wA.heap.size)
  obtain ⟨i0, i1⟩ := HI.out.cells
  clear h ho hnm hll hml HF HZ
  go_enter Tryz.func96, Tryz.ntmps96
  go_wp2
  clear hA i0 i1
  go_loopw [3, 4] (fun v i wr => ∃ k : Nat, k ≤ m + 1 ∧ i = .int .i64 (k : Int) ∧ Hid (Gw encI wr wA.heap.size v (idsN F k)) ∧ Hid (Below wA.heap.size wA wr)) (fun _ i _ => m + 1 - (intOf i).toNat)
  case atStart => exact ⟨0, by omega, rfl, HO0, HB0⟩
  case round =>
    clear HO0 HB0
    obtain ⟨k, hk, rfl, HO, HB⟩ := hrel
    obtain ⟨i0, i1⟩ := (HI.out.later HB.out).cells
    by_cases hlt : k ≤ m
    · have hkm : (k : Int) ≤ (m : Int) := by omega
      go_wp2_with fail
      refine (HBH.out k (by omega) wr (HFA.out.later HB.out)).mono ?_
      rintro e2 w2 ⟨v2, rfl, ho2, hb2⟩
      rw [Int.toNat_natCast] at ho2
      obtain ⟨p2, c2, hv2, _, _, hs2, _⟩ := ho2.open
      subst hv2
      have HB2 := Lib.hid (below_step HB.out hb2)
      have HS2 := Lib.hid hs2
      have HO2 : Hid (Gw encI w2 wA.heap.size u3 (idsM F k 0)) := Lib.hid (by rw [HI0.out]; exact HO.out.later hb2)
      have HI2 := Lib.hid (below_step HB.out hb2)
      obtain ⟨N, hN⟩ : ∃ N, (behP F k).length = N := ⟨_, rfl⟩
      rw [hN] at HS2
      have HN := Lib.hid hN
      have hNb : N ≤ 1048576 := by have := HBE.out k; rw [HFL.out, HFM.out] at this; have := HNM.out; omega
      rw [hN]
      have HR0 := Lib.hid (Below.refl w2.heap.size w2)
      clear hb2 hs2 ho2 HO i0 i1 hN
      go_wp2
      go_loopw [3, 6] (fun v i wr => ∃ j : Nat, j ≤ N ∧ i = .int .i64 (j : Int) ∧ Hid (Gw encI wr wA.heap.size v (idsM F k j)) ∧ Hid (Below wA.heap.size wA wr) ∧ Hid (Gs encN wr p2 N (behP F k))) (fun _ i _ => N - (intOf i).toNat)
      case atStart => exact ⟨0, by omega, rfl, HO2, HB2, HS2⟩
      case round =>
        clear HO2 HB2 HS2
        obtain ⟨j, hj, rfl, HO, HB2, HS⟩ := hrel
        by_cases hlt2 : j < N
        · obtain ⟨b, off, rfl, c0, c1⟩ := HS.out.nd j hlt2
          have HST := Lib.hid (HIS.out k j (by rw [HN.out]; exact hlt2))
          have HLN : Hid ((idsM F k j).length ≤ 1048576) := Lib.hid (by have := HID.out k j (by rw [HFM.out]; exact hlt); rw [HFL.out, HFM.out] at this; have := HNM.out; omega)
          have hjn : (j : Int) < (N : Int) := by omega
          have hj0 : (0 : Int) ≤ (j : Int) := by omega
          obtain ⟨p3, c3, hv3, _, _, hs3, _⟩ := HO.out.open
          have HS3 := Lib.hid hs3
          generalize (behP F k).getD j nd0 = y at *
          obtain ⟨ys, yi⟩ := y
          dsimp only at c0 c1 HST
          subst hv3
          clear hs3 HO
          go_wp2_with fail
          refine (rputint_any p3 _ c3 _ yi wr HS3.out HLN.out).mono ?_
          rintro e4 w4 ⟨v4, rfl, ho4, hb4⟩
          have HO4 : Hid (Gw encI w4 wA.heap.size v4 (idsM F k (j + 1))) := Lib.hid (by rw [HST.out]; exact ho4.mono HB2.out.size)
          have HB4 := Lib.hid (below_step HB2.out hb4)
          have HS4 := Lib.hid (HS.out.later hb4)
          clear ho4 hb4 c0 c1
          go_wp2
          refine ⟨?_, by simp [intOf] <;> omega⟩
          first
            | exact ⟨j + 1, by omega, by go_num, HO4, HB4, HS4⟩
            | ((repeat apply Exists.intro); refine ⟨?_, rfl⟩; exact ⟨j + 1, by omega, by go_num, HO4, HB4, HS4⟩)
        · obtain rfl : j = N := by omega
          have HO4 : Hid (Gw encI wr wA.heap.size u3 (idsN F (k + 1))) := Lib.hid (by rw [← HIE.out k j (by rw [HN.out]; exact Nat.le_refl _)]; exact HO.out)
          go_wp2
          refine ⟨?_, by simp [intOf] <;> omega⟩
          first
            | exact ⟨k + 1, by omega, by go_num, HO4, HB2⟩
            | ((repeat apply Exists.intro); refine ⟨?_, rfl⟩; exact ⟨k + 1, by omega, by go_num, HO4, HB2⟩)
    · obtain rfl : k = m + 1 := by omega
      have HF : Hid (idsN F (m + 1) = idsP F) := Lib.hid (by rw [HIP.out, HFM.out])
      have hkm : ¬ (((m + 1 : Nat) : Int) ≤ (m : Int)) := by omega
      go_wp2
      go_ret
      exact ⟨_, rfl, by rw [← HF.out]; exact HO.out.mono HBA.out.size, below_step HBA.out HB.out⟩
end Go.Proofs.YtncbgddgkpaoeaaGreat
