/- The reference of layer 17: read; The reference of layer 17: Read; Layer 17, the laws: ManifestTexts, ManifestReads; Layer 17, the laws: ManifestBack -/
import Derived.Test.YtahjofjblhpndaaDoorMn10
import Derived.Test.YtahjofjblhpndaaDoorMn16
import Derived.StillTailTactics
set_option linter.unusedSimpArgs false
set_option linter.unusedVariables false
namespace Go.Proofs.YtahjofjblhpndaaDoor
set_option linter.unusedVariables false
open Go.RowKit Go.Lib

theorem same_test (s t : ByteArray) : (s.toList == t.toList) = decide (s = t) := by
  rw [Bool.eq_iff_iff, beq_iff_eq, decide_eq_true_iff, bytes_toList, bytes_toList]
  exact ⟨fun h => ByteArray.ext (Array.ext' h), fun h => by rw [h]⟩
def LnQ (w : World) (cs : List Int) (e : Ending) (w' : World) : Prop := ∃ (y : Rf) (b : Bool), e = .returned (.tuple #[y.v, .bool b]) ∧ y.Ok ∧ (b = true → rdL cs = some y) ∧ (b = false → rdL cs = none) ∧ Below w.heap.size w w'
theorem LnQ.of {w w' : World} {cs : List Int} (y : Rf) (b : Bool) (hy : y.Ok) (h1 : b = true → rdL cs = some y) (h0 : b = false → rdL cs = none) (hb : Below w.heap.size w w') {v : Value} (hv : v = .tuple #[y.v, .bool b]) : LnQ w cs (.returned v) w' := by
  subst hv
  exact ⟨y, b, rfl, hy, h1, h0, hb⟩
theorem rf_ok (m : Bool) {d : List Int} (hd : dok d) {z : Int} (hz : -9223372036854775808 ≤ z ∧ z ≤ 9223372036854775807) : (⟨m, d, z⟩ : Rf).Ok := ⟨hd, hz⟩
theorem lay_dg {w1 w2 : World} {l : List Int} (h : (w1.alloc (.cells (bcs dzero) 39)).setRow w1.heap.size (bcs l) = w2) : Yw w2 w1.heap.size 39 l ∧ Below w1.heap.size w1 w2 := by
  subst h
  exact ⟨setRow_heap _ _ _ _ _ _ (heap_alloc_new _ _), below_setRow8 ((Below.refl _ _).alloc (Nat.le_refl _) _) _ _ (Nat.le_refl _)⟩
set_option maxRecDepth 100000 in
set_option maxHeartbeats 2000000 in
theorem rline_read17 (s : ByteArray) (w : World) (hs : s.size ≤ 1048576) :
    Calls Tryd.prog 21 #[.string s] w fun e w' => LnQ w (numsOf s) e w' := by
  obtain ⟨wA, hA⟩ : ∃ W, w.alloc (.cells rf0C 41) = W := ⟨_, rfl⟩
  obtain ⟨g4, hg4⟩ : ∃ g, wA.heap.size = g := ⟨_, rfl⟩
  obtain ⟨wB, hB⟩ : ∃ W, wA.alloc (.cells rf0C 41) = W := ⟨_, rfl⟩
  have hA2 := Fm.zero hA
  have HLT : Hid (w.heap.size < g4) := Lib.hid (by rw [← hg4]; exact hA2.lt)
  have hbB : Below wA.heap.size wA wB := by rw [← hB]; exact (Below.refl _ _).alloc (Nat.le_refl _) _
  have H2 := Lib.hid (hA2.later hbB)
  have H4 : Hid (Fm wB g4 rf0) := Lib.hid (by rw [← hg4]; exact Fm.zero hB)
  have HB : Hid (Below w.heap.size w wB) := Lib.hid (by rw [← hB, ← hA]; exact ((Below.refl _ _).alloc (Nat.le_refl _) _).alloc (by simp) _)
  have HRD := Lib.hid fun a b W => rread_any (s.extract a b) W (by rw [ByteArray.size_extract]; omega)
  have HEX := Lib.hid fun a b => numsOf_extract s a b
  obtain ⟨cs, hcs⟩ : ∃ l, numsOf s = l := ⟨_, rfl⟩
  have HCS := Lib.hid hcs
  have HLN : Hid (cs.length = s.size) := Lib.hid (by rw [← hcs, numsOf_length])
  have HBY : Hid (∀ x ∈ cs, 0 ≤ x ∧ x < 256) := Lib.hid (by rw [← hcs]; exact byt_mem (numsOf_byte s))
  rw [hcs] at HEX ⊢
  have HQ : Hid (rdL cs = if cs.take 9 = manPre then
    if cs.length < 80 then none else match drd ((cs.drop 9).take 71) with
      | none => none
      | some d => if lineN ⟨true, d, 0⟩ = cs then some ⟨true, d, 0⟩ else none
  else if cs.length < 76 then none else match drd ((cs.drop 5).take 71) with
      | none => none
      | some d => if 0 ≤ accN 0 ((cs.drop 77).take 10) ∧ accN 0 ((cs.drop 77).take 10) ≤ 999999999 ∧ lineN ⟨false, d, accN 0 ((cs.drop 77).take 10)⟩ = cs then some ⟨false, d, accN 0 ((cs.drop 77).take 10)⟩ else none) := Lib.hid rfl
  have HSAME := Lib.hid fun l (hl : ∀ x ∈ l, 0 ≤ x ∧ x < 256) => (by
    rw [same_test, decide_eq_decide, ← HCS.out]
    exact ⟨fun h => by rw [← h, numsOf_strOfNums (byt_fin hl)], fun h => by rw [h, strOfNums_numsOf]⟩ : ((strOfNums l).toList == s.toList) = decide (l = cs))
  have HSZ := Lib.hid hs
  unfold rf0C at hA hB
  clear hcs hA2 hbB hs
  by_cases hman : cs.take 9 = manPre
  · rw [if_pos hman] at HQ
    have h9 : 9 ≤ s.size := by
      have h1 := congrArg List.length hman
      rw [List.length_take, HLN.out] at h1
      have : manPre.length = 9 := rfl
      omega
    have h9' : (9 : Int) ≤ (s.size : Int) := by omega
    have d9 : decide ((9 : Int) ≤ (s.size : Int)) = true := decide_eq_true h9'
    have ht : ((s.extract 0 9).toList == [109, 97, 110, 105, 102, 101, 115, 116, 32]) = true := by
      rw [text_test _ _ manPre rfl, HEX.out, List.drop_zero, hman]
      simp
    clear hman
    obtain ⟨v1, hv1⟩ : ∃ W, wB.setCell ⟨g4, 0, none⟩ (.bool true) = W := ⟨_, rfl⟩
    obtain ⟨a0, a33⟩ := H4.out.cells rfl
    have f0 := H4.out.frozen 0
    have H41 : Hid (Fm v1 g4 ⟨true, dzero, 0⟩) := Lib.hid (by rw [← hv1]; exact H4.out.setM true)
    have H21 : Hid (Fm v1 w.heap.size rf0) := Lib.hid (by rw [← hv1]; exact H2.out.other _ _ (Nat.ne_of_lt HLT.out))
    have HB1 : Hid (Below w.heap.size w v1) := Lib.hid (by rw [← hv1]; exact HB.out.setCell (p := ⟨g4, 0, none⟩) (Nat.le_of_lt HLT.out) _)
    by_cases h80 : cs.length < 80
    · rw [if_pos h80] at HQ
      have hl : (s.size : Int) < 80 := by have := HLN.out; omega
      have dl : decide ((s.size : Int) < 80) = true := decide_eq_true hl
      clear h80 hl
      go_enter Tryd.func21, Tryd.ntmps21
      go_wp2_with (first
        | (refine wpList_ld rfl 41 _ rfl _ rfl _ (H41.out.load rfl) ?_)
        | (refine wpList_store_row rfl 41 _ _ rfl w.heap.size _ rfl rfl 41 _ H21.out (Rf.sizeOf ⟨true, dzero, 0⟩ rfl) (Rf.sizes rf0 ⟨true, dzero, 0⟩ rfl rfl) (Rf.one ⟨true, dzero, 0⟩) ?_; generalize hwZ : World.setRow _ _ _ = wZ))
      have HZ : Hid (Fm wZ w.heap.size ⟨true, dzero, 0⟩) := Lib.hid (by rw [← hwZ]; exact H21.out.row)
      have HZB : Hid (Below w.heap.size w wZ) := Lib.hid (by rw [← hwZ]; exact below_setRow8 HB1.out _ _ (Nat.le_refl _))
      clear hwZ
      (try simp only [Exit.inBlock, Exit.then])
      refine bodyPost_ret (HZ.out.res2 rfl rfl _ rfl) rfl ?_
      exact LnQ.of ⟨true, dzero, 0⟩ false (rf_ok _ dok_zero (by decide)) (fun h => by cases h) (fun _ => HQ.out) HZB.out rfl
    · rw [if_neg h80] at HQ
      have hl : ¬ (s.size : Int) < 80 := by have := HLN.out; omega
      have dl : decide ((s.size : Int) < 80) = false := decide_eq_false hl
      have hl2 : (80 : Int) ≤ (s.size : Int) := by omega
      have dl2 : decide ((80 : Int) ≤ (s.size : Int)) = true := decide_eq_true hl2
      have HSL : Hid (80 ≤ s.size) := Lib.hid (by omega)
      clear h80
      have HRE := Lib.hid fun W => HRD.out 9 80 W
      rw [HEX.out, show (cs.take 80).drop 9 = (cs.drop 9).take 71 by rw [List.drop_take]] at HRE
      obtain ⟨ts, hts⟩ : ∃ l, (cs.drop 9).take 71 = l := ⟨_, rfl⟩
      rw [hts] at HQ HRE
      clear hts
      cases hdr : drd ts with
      | none =>
        rw [hdr] at HQ
        have HQ2 : Hid (rdL cs = none) := HQ
        obtain ⟨ha, he⟩ := drd_none hdr
        rw [ha, he] at HRE
        have HDK : Hid (dok dzero) := Lib.hid dok_zero
        clear hdr ha he
        go_enter Tryd.func21, Tryd.ntmps21
        go_upto_region 9 with (first
          | (go_at_call 34; refine (HRE.out _).mono ?_; rintro e w3 ⟨rfl, hb3⟩; have HB3 := Lib.hid hb3; clear hb3)
          | (refine wpList_store_row rfl 39 _ _ rfl w3.heap.size _ rfl rfl 39 _ (heap_alloc_new _ _) (by rw [bcs_size, HDK.out.1]; exact size32) (by rw [bcs_size, HDK.out.1]; rfl) (bcs_one _) ?_; generalize hw4 : World.setRow _ _ _ = w4; obtain ⟨hy4, hb4⟩ := lay_dg hw4; have HY4 := Lib.hid hy4; have HB34 := Lib.hid hb4; clear hw4 hy4 hb4))
        have HBV : Hid (Below v1.heap.size v1 w4) := Lib.hid (below_step HB3.out HB34.out)
        have H44 := Lib.hid (H41.out.later HBV.out)
        have H24 := Lib.hid (H21.out.later HBV.out)
        have HB4 := Lib.hid (below_step HB1.out HBV.out)
        go_wp2_with (first
          | (refine wpList_ld rfl 41 _ rfl _ rfl _ (H44.out.load rfl) ?_)
          | (refine wpList_store_row rfl 41 _ _ rfl w.heap.size _ rfl rfl 41 _ H24.out (Rf.sizeOf ⟨true, dzero, 0⟩ rfl) (Rf.sizes rf0 ⟨true, dzero, 0⟩ rfl rfl) (Rf.one ⟨true, dzero, 0⟩) ?_; generalize hwZ : World.setRow _ _ _ = wZ))
        have HZ : Hid (Fm wZ w.heap.size ⟨true, dzero, 0⟩) := Lib.hid (by rw [← hwZ]; exact H24.out.row)
        have HZB : Hid (Below w.heap.size w wZ) := Lib.hid (by rw [← hwZ]; exact below_setRow8 HB4.out _ _ (Nat.le_refl _))
        clear hwZ
        (try simp only [Exit.inBlock, Exit.then])
        refine bodyPost_ret (HZ.out.res2 rfl rfl _ rfl) rfl ?_
        exact LnQ.of ⟨true, dzero, 0⟩ false (rf_ok _ dok_zero (by decide)) (fun h => by cases h) (fun _ => HQ2.out) HZB.out rfl
      | some d =>
        rw [hdr] at HQ
        obtain ⟨ha, he⟩ := drd_some hdr
        rw [ha, he] at HRE
        have HDK : Hid (dok d) := Lib.hid (drd_ok hdr)
        dsimp only at HQ
        clear hdr ha he
        go_enter Tryd.func21, Tryd.ntmps21
        go_upto_region 9 with (first
          | (go_at_call 34; refine (HRE.out _).mono ?_; rintro e w3 ⟨rfl, hb3⟩; have HB3 := Lib.hid hb3; clear hb3)
          | (refine wpList_store_row rfl 39 _ _ rfl w3.heap.size _ rfl rfl 39 _ (heap_alloc_new _ _) (by rw [bcs_size, HDK.out.1]; exact size32) (by rw [bcs_size, HDK.out.1]; rfl) (bcs_one _) ?_; generalize hw4 : World.setRow _ _ _ = w4; obtain ⟨hy4, hb4⟩ := lay_dg hw4; have HY4 := Lib.hid hy4; have HB34 := Lib.hid hb4; clear hw4 hy4 hb4))
        have HBV : Hid (Below v1.heap.size v1 w4) := Lib.hid (below_step HB3.out HB34.out)
        have H44 := Lib.hid (H41.out.later HBV.out)
        have H24 := Lib.hid (H21.out.later HBV.out)
        have HB4 := Lib.hid (below_step HB1.out HBV.out)
        go_upto_region 13 with (first
          | (refine wpList_ld rfl 39 _ rfl _ rfl _ (HY4.out.load HDK.out.1) ?_)
          | (refine wpList_store_mid rfl 39 _ _ rfl g4 1 _ rfl rfl (by rw [bcs_size, HDK.out.1]; exact Mx.there H44.out 1 32 (by decide)) (by rw [bcs_size, HDK.out.1]; exact size32) (bcs_one _) ?_; generalize hwD : World.setCells _ _ _ _ = w5; rw [show (bcs d).toList = d.map (Value.int .u8) by simp [bcs]] at hwD; have H45 : Hid (Fm w5 g4 ⟨true, d, 0⟩) := Lib.hid (by rw [← hwD]; exact H44.out.setDg rfl d HDK.out.1); have H25 : Hid (Fm w5 w.heap.size rf0) := Lib.hid (H24.out.keep (rkeep_cells hwD _ (Nat.ne_of_lt HLT.out))); have HB5 : Hid (Below w.heap.size w w5) := Lib.hid (by rw [← hwD]; exact below_setCells (Nat.le_of_lt HLT.out) _ _ _ HB4.out); obtain ⟨m0, m33⟩ := H45.out.cells HDK.out.1; clear hwD))
        have HXO : Hid ((⟨true, d, 0⟩ : Rf).Ok) := Lib.hid (rf_ok _ HDK.out (by decide))
        obtain ⟨X, hX⟩ : ∃ X : Rf, ⟨true, d, 0⟩ = X := ⟨_, rfl⟩
        rw [hX] at HXO H45
        have HXD : Hid (X.dg.length = 32) := Lib.hid HXO.out.dg.1
        have HSS := Lib.hid fun W (h : Fm W g4 X) => h.range
        have HMC := Lib.hid (show (mixL X.a X.dg X.t).toArray = mixC X.a X.dg X.t from rfl)
        have HLZ : Hid ((Tryd.prog.info? 41).map (·.size) = some (mixL X.a X.dg X.t).length) := Lib.hid (by rw [mixL_length, HXD.out]; exact size34)
        have HLI := Lib.hid fun W => rline17_any X W HXO.out (by rw [← hX]; rfl)
        unfold Rf.v mixC at HLI
        have hst := HSAME.out (lineN X) (lineN_mem HXO.out.dg)
        obtain ⟨sb, hsb⟩ : ∃ b, decide (lineN X = cs) = b := ⟨_, rfl⟩
        rw [hsb] at hst
        obtain ⟨LX, hLX⟩ : ∃ l, mixL X.a X.dg X.t = l := ⟨_, rfl⟩
        rw [hLX] at HSS HMC HLZ HLI
        rw [hX] at HQ
        have HXQ : Hid (sb = true → rdL cs = some X) := Lib.hid (fun h => by rw [HQ.out, if_pos (of_decide_eq_true (hsb.trans h))])
        have HXN : Hid (sb = false → rdL cs = none) := Lib.hid (fun h => by rw [HQ.out, if_neg (of_decide_eq_false (hsb.trans h))])
        generalize strOfNums (lineN X) = SL at *
        clear hX hLX hsb
        refine wp_region_held_drew (S := (fun W => W.rangeAt g4 0 LX)) (by kernel_rfl) (HSS.out _ (H45.out.later (Below.refl _ _).drew)) (fun hHeld => ?_)
        refine take_at 0 rfl (by kernel_rfl) (by kernel_rfl) (by kernel_rfl) (fun _ _ _ h => h) (yieldsIf_load_mid (by rfl) _ _ rfl _ _ rfl _ _ (fun _ h => h) Tryd.underlying41 rfl HLZ.out) (by assumption) ?_
        (try simp only [Act.put, List.setIfInBounds_toArray, List.set_cons_zero, List.set_cons_succ])
        refine take_at 1 rfl (by kernel_rfl) (by kernel_rfl) (by kernel_rfl) (fun _ _ _ h => h) (yieldsIf_load_mid (by rfl) _ _ rfl _ _ rfl _ _ (fun _ h => h) Tryd.underlying41 rfl HLZ.out) (by assumption) ?_
        (try simp only [Act.put, List.setIfInBounds_toArray, List.set_cons_zero, List.set_cons_succ])
        refine take_at 3 (v := ?vv3) rfl (by kernel_rfl) (by kernel_rfl) (by kernel_rfl) (fun _ _ _ h => h) (Or.inl ⟨by rfl, ?hy3⟩) (by assumption) ?rest3
        case hy3 => intro w hSw; (try dsimp only at hSw); go_simp; (try with_reducible rfl)
        (try simp only [Act.put, List.setIfInBounds_toArray, List.set_cons_zero, List.set_cons_succ])
        refine ready_at 2 rfl (by kernel_rfl) (fun K hK => ?_)
        go_simp
        refine (HLI.out _).mono ?_
        rintro e w7 ⟨rfl, hb7⟩
        have HB7 : Hid (Below w5.heap.size w5 w7) := Lib.hid (below_step (Below.refl w5.heap.size w5).drew hb7)
        have H47 := Lib.hid (H45.out.later HB7.out)
        have H27 := Lib.hid (H25.out.later HB7.out)
        have HB8 := Lib.hid (below_step HB5.out HB7.out)
        clear hb7
        first
          | refine hK.out _ _ ?hS4 (fun hHeld => ?rest4)
          | (go_wp2_with fail; refine hK.out _ _ ?hS4 (fun hHeld => ?rest4))
        case hS4 => exact HSS.out _ H47.out
        clear hK K
        (try simp only [Act.put, List.setIfInBounds_toArray, List.set_cons_zero, List.set_cons_succ])
        refine take_at 4 (v := ?vv5) rfl (by kernel_rfl) (by kernel_rfl) (by kernel_rfl) (fun _ _ _ h => h) (Or.inl ⟨by rfl, ?hy5⟩) (by assumption) ?rest5
        case hy5 => intro w hSw; (try dsimp only at hSw); go_simp; (try with_reducible rfl)
        (try simp only [Act.put, List.setIfInBounds_toArray, List.set_cons_zero, List.set_cons_succ])
        refine ready_at 5 rfl (by kernel_rfl) (fun K hK => ?_)
        rw [if_pos (by rfl)]
        rw [HMC.out]
        refine wp_store_row 41 _ _ rfl w.heap.size _ rfl rfl 41 _ H27.out (Rf.sizeOf X HXD.out) (Rf.sizes rf0 X rfl HXD.out) (Rf.one X) ?_
        generalize hwZ : World.setRow _ _ _ = wZ
        have HZ : Hid (Fm wZ w.heap.size X) := Lib.hid (by rw [← hwZ]; exact H27.out.row)
        have HZB : Hid (Below w.heap.size w wZ) := Lib.hid (by rw [← hwZ]; exact below_setRow8 HB8.out _ _ (Nat.le_refl _))
        have HZ4 : Hid (Fm wZ g4 X) := Lib.hid (H47.out.keep (rkeep_row hwZ _ (Nat.ne_of_gt HLT.out)))
        clear hwZ
        refine hK.out _ _ ?hS6 (fun hHeld => ?rest6)
        case hS6 => exact HSS.out _ HZ4.out
        clear hK K
        (try simp only [Act.put, List.setIfInBounds_toArray, List.set_cons_zero, List.set_cons_succ])
        refine take_at 6 (v := ?vv7) rfl (by kernel_rfl) (by kernel_rfl) (by kernel_rfl) (fun _ _ _ h => h) (Or.inl ⟨by rfl, ?hy7⟩) (by assumption) ?rest7
        case hy7 => intro w hSw; (try dsimp only at hSw); go_simp; (try with_reducible rfl)
        (try simp only [Act.put, List.setIfInBounds_toArray, List.set_cons_zero, List.set_cons_succ])
        refine wpAnyH_done (by kernel_rfl) ?_ _
        go_wp2
        refine bodyPost_ret (HZ.out.res2 HXD.out rfl _ rfl) rfl ?_
        exact LnQ.of X sb HXO.out HXQ.out HXN.out HZB.out rfl
  · rw [if_neg hman] at HQ
    obtain ⟨a0, a33⟩ := H4.out.cells rfl
    by_cases h9 : 9 ≤ s.size
    · have h9' : (9 : Int) ≤ (s.size : Int) := by omega
      have d9 : decide ((9 : Int) ≤ (s.size : Int)) = true := decide_eq_true h9'
      have ht : ((s.extract 0 9).toList == [109, 97, 110, 105, 102, 101, 115, 116, 32]) = false := by
        rw [text_test _ _ manPre rfl, HEX.out, List.drop_zero, decide_eq_false hman]
      clear hman h9
      by_cases h76 : cs.length < 76
      · rw [if_pos h76] at HQ
        have hl : (s.size : Int) < 76 := by have := HLN.out; omega
        have dl : decide ((s.size : Int) < 76) = true := decide_eq_true hl
        clear h76 hl
        go_enter Tryd.func21, Tryd.ntmps21
        go_wp2_with (first
          | (refine wpList_ld rfl 41 _ rfl _ rfl _ (H4.out.load rfl) ?_)
          | (refine wpList_store_row rfl 41 _ _ rfl w.heap.size _ rfl rfl 41 _ H2.out (Rf.sizeOf rf0 rfl) (Rf.sizes rf0 rf0 rfl rfl) (Rf.one rf0) ?_; generalize hwZ : World.setRow _ _ _ = wZ))
        have HZ : Hid (Fm wZ w.heap.size rf0) := Lib.hid (by rw [← hwZ]; exact H2.out.row)
        have HZB : Hid (Below w.heap.size w wZ) := Lib.hid (by rw [← hwZ]; exact below_setRow8 HB.out _ _ (Nat.le_refl _))
        clear hwZ
        (try simp only [Exit.inBlock, Exit.then])
        refine bodyPost_ret (HZ.out.res2 rfl rfl _ rfl) rfl ?_
        exact LnQ.of rf0 false (rf_ok _ dok_zero (by decide)) (fun h => by cases h) (fun _ => HQ.out) HZB.out rfl
      · rw [if_neg h76] at HQ
        have hl : ¬ (s.size : Int) < 76 := by have := HLN.out; omega
        have dl : decide ((s.size : Int) < 76) = false := decide_eq_false hl
        have hl2 : (76 : Int) ≤ (s.size : Int) := by omega
        have dl2 : decide ((76 : Int) ≤ (s.size : Int)) = true := decide_eq_true hl2
        have HSL : Hid (76 ≤ s.size) := Lib.hid (by omega)
        clear h76
        have HRE := Lib.hid fun W => HRD.out 5 76 W
        rw [HEX.out, show (cs.take 76).drop 5 = (cs.drop 5).take 71 by rw [List.drop_take]] at HRE
        obtain ⟨ts, hts⟩ : ∃ l, (cs.drop 5).take 71 = l := ⟨_, rfl⟩
        rw [hts] at HQ HRE
        clear hts
        cases hdr : drd ts with
        | none =>
          rw [hdr] at HQ
          have HQ2 : Hid (rdL cs = none) := HQ
          obtain ⟨ha, he⟩ := drd_none hdr
          rw [ha, he] at HRE
          have HDK : Hid (dok dzero) := Lib.hid dok_zero
          clear hdr ha he
          go_enter Tryd.func21, Tryd.ntmps21
          go_upto_region 9 with (first
            | (go_at_call 34; refine (HRE.out _).mono ?_; rintro e w3 ⟨rfl, hb3⟩; have HB3 := Lib.hid hb3; clear hb3)
            | (refine wpList_store_row rfl 39 _ _ rfl w3.heap.size _ rfl rfl 39 _ (heap_alloc_new _ _) (by rw [bcs_size, HDK.out.1]; exact size32) (by rw [bcs_size, HDK.out.1]; rfl) (bcs_one _) ?_; generalize hw4 : World.setRow _ _ _ = w4; obtain ⟨hy4, hb4⟩ := lay_dg hw4; have HY4 := Lib.hid hy4; have HB34 := Lib.hid hb4; clear hw4 hy4 hb4))
          have HBV : Hid (Below wB.heap.size wB w4) := Lib.hid (below_step HB3.out HB34.out)
          have H44 := Lib.hid (H4.out.later HBV.out)
          have H24 := Lib.hid (H2.out.later HBV.out)
          have HB4 := Lib.hid (below_step HB.out HBV.out)
          go_wp2_with (first
            | (refine wpList_ld rfl 41 _ rfl _ rfl _ (H44.out.load rfl) ?_)
            | (refine wpList_store_row rfl 41 _ _ rfl w.heap.size _ rfl rfl 41 _ H24.out (Rf.sizeOf rf0 rfl) (Rf.sizes rf0 rf0 rfl rfl) (Rf.one rf0) ?_; generalize hwZ : World.setRow _ _ _ = wZ))
          have HZ : Hid (Fm wZ w.heap.size rf0) := Lib.hid (by rw [← hwZ]; exact H24.out.row)
          have HZB : Hid (Below w.heap.size w wZ) := Lib.hid (by rw [← hwZ]; exact below_setRow8 HB4.out _ _ (Nat.le_refl _))
          clear hwZ
          (try simp only [Exit.inBlock, Exit.then])
          refine bodyPost_ret (HZ.out.res2 rfl rfl _ rfl) rfl ?_
          exact LnQ.of rf0 false (rf_ok _ dok_zero (by decide)) (fun h => by cases h) (fun _ => HQ2.out) HZB.out rfl
        | some d =>
          rw [hdr] at HQ
          obtain ⟨ha, he⟩ := drd_some hdr
          rw [ha, he] at HRE
          have HDK : Hid (dok d) := Lib.hid (drd_ok hdr)
          dsimp only at HQ
          clear hdr ha he
          go_enter Tryd.func21, Tryd.ntmps21
          go_upto_region 9 with (first
            | (go_at_call 34; refine (HRE.out _).mono ?_; rintro e w3 ⟨rfl, hb3⟩; have HB3 := Lib.hid hb3; clear hb3)
            | (refine wpList_store_row rfl 39 _ _ rfl w3.heap.size _ rfl rfl 39 _ (heap_alloc_new _ _) (by rw [bcs_size, HDK.out.1]; exact size32) (by rw [bcs_size, HDK.out.1]; rfl) (bcs_one _) ?_; generalize hw4 : World.setRow _ _ _ = w4; obtain ⟨hy4, hb4⟩ := lay_dg hw4; have HY4 := Lib.hid hy4; have HB34 := Lib.hid hb4; clear hw4 hy4 hb4))
          have HBV : Hid (Below wB.heap.size wB w4) := Lib.hid (below_step HB3.out HB34.out)
          have H44 := Lib.hid (H4.out.later HBV.out)
          have H24 := Lib.hid (H2.out.later HBV.out)
          have HB4 := Lib.hid (below_step HB.out HBV.out)
          go_upto_region 14 with (first
            | (refine wpList_ld rfl 39 _ rfl _ rfl _ (HY4.out.load HDK.out.1) ?_)
            | (refine wpList_store_mid rfl 39 _ _ rfl g4 1 _ rfl rfl (by rw [bcs_size, HDK.out.1]; exact Mx.there H44.out 1 32 (by decide)) (by rw [bcs_size, HDK.out.1]; exact size32) (bcs_one _) ?_; generalize hwD : World.setCells _ _ _ _ = w5; rw [show (bcs d).toList = d.map (Value.int .u8) by simp [bcs]] at hwD; have H45 : Hid (Fm w5 g4 ⟨false, d, 0⟩) := Lib.hid (by rw [← hwD]; exact H44.out.setDg rfl d HDK.out.1); have H25 : Hid (Fm w5 w.heap.size rf0) := Lib.hid (H24.out.keep (rkeep_cells hwD _ (Nat.ne_of_lt HLT.out))); have HB5 : Hid (Below w.heap.size w w5) := Lib.hid (by rw [← hwD]; exact below_setCells (Nat.le_of_lt HLT.out) _ _ _ HB4.out); obtain ⟨m0, m33⟩ := H45.out.cells HDK.out.1; clear hwD))
          have HX5 : Hid (Fm w5 g4 ⟨false, d, accN 0 ((cs.drop 77).take 0)⟩) := H45
          obtain ⟨K, hK⟩ : ∃ K, min 10 (s.size - 77) = K := ⟨_, rfl⟩
          have HK := Lib.hid hK
          clear m0 m33 hK
          go_wp2
          go_loopw [8] (fun iv wr => ∃ k : Nat, k ≤ K ∧ iv = .int .i64 ((77 + k : Nat) : Int) ∧ Hid (Fm wr g4 ⟨false, d, accN 0 ((cs.drop 77).take k)⟩) ∧ Hid (Fm wr w.heap.size rf0) ∧ Hid (Below w.heap.size w wr)) (fun iv _ => K + 77 - (intOf iv).toNat)
          case atStart => exact ⟨0, Nat.zero_le _, rfl, HX5, H25, HB5⟩
          case round =>
            obtain ⟨k, hkK, rfl, H4r, H2r, HBr⟩ := hrel
            have HZB := Lib.hid (accN_bd _ ((cs.drop 77).take k) rfl (fun x hx => HBY.out x (List.mem_of_mem_drop (List.mem_of_mem_take hx))))
            obtain ⟨z, hz⟩ : ∃ z, accN 0 ((cs.drop 77).take k) = z := ⟨_, rfl⟩
            rw [hz] at H4r HZB
            have HPW : Hid ((10 ^ ((cs.drop 77).take k).length : Nat) ≤ 10 ^ 10) := Lib.hid (Nat.pow_le_pow_right (by decide) (by rw [List.length_take]; have := HK.out; omega))
            have hzr : -230000000000 ≤ z ∧ z ≤ 230000000000 := by have h1 := HZB.out; have h2 := HPW.out; omega
            obtain ⟨m0, m33⟩ := H4r.out.cells HDK.out.1
            have f33 := H4r.out.frozen 33
            obtain ⟨i, hi⟩ : ∃ i, 77 + k = i := ⟨_, rfl⟩
            rw [hi]
            by_cases hlt : k < K
            · have hks : k < s.size - 77 := by have := HK.out; omega
              have hk10 : k < 10 := by have := HK.out; omega
              have his : (i : Int) < (s.size : Int) := by omega
              have hi0 : (0 : Int) ≤ (i : Int) := by omega
              have hil : (i : Int) < 87 := by omega
              have d1 : decide ((i : Int) < (s.size : Int)) = true := decide_eq_true his
              have d2 : decide ((i : Int) < 87) = true := decide_eq_true hil
              have hin : i < s.size := by omega
              have HI1 : Hid ((i : Int) + 1 = ((77 + (k + 1) : Nat) : Int)) := Lib.hid (by rw [← hi]; push_cast; rw [Int.add_assoc])
              have HME : Hid (K + 77 - ((77 + (k + 1) : Nat) : Int).toNat < K + 77 - ((i : Nat) : Int).toNat) := Lib.hid (by rw [Int.toNat_natCast, Int.toNat_natCast]; omega)
              have hy := numsOf_getD s i hin
              rw [HCS.out] at hy
              have HSTP : Hid (accN 0 ((cs.drop 77).take (k + 1)) = z * 10 + cs.getD i 0 - 48) := Lib.hid (by
                rw [List.take_succ_eq_append_getElem (by rw [List.length_drop, HLN.out]; omega), accN_append, hz]
                simp only [accN, List.foldl_cons, List.foldl_nil, List.getElem_drop]
                rw [List.getD_eq_getElem?_getD, List.getElem?_eq_getElem (by rw [HLN.out]; omega), Option.getD_some]
                simp only [hi])
              obtain ⟨y, hyy⟩ : ∃ y : Int, cs.getD i 0 = y := ⟨_, rfl⟩
              have hyb : 0 ≤ y ∧ y < 256 := by
                rw [← hyy, List.getD_eq_getElem?_getD, List.getElem?_eq_getElem (by rw [HLN.out]; omega)]
                exact HBY.out _ (List.getElem_mem _)
              rw [hyy] at hy HSTP
              have hy2 : ((s[i]'hin).toNat : Int) = y := hy.symm
              have hw1 : wrap64 (z * 10) = z * 10 := by unfold wrap64; omega
              have hw2 : wrap64 (z * 10 + y) = z * 10 + y := by unfold wrap64; omega
              have hw3 : wrap64 (z * 10 + y - 48) = z * 10 + y - 48 := by unfold wrap64; omega
              obtain ⟨V1, hV1⟩ : ∃ V, z * 10 + y - 48 = V := ⟨_, rfl⟩
              rw [hV1] at HSTP hw3
              clear hyy hy hz HZB
              go_upto_region 17 with fail
              go_still_tail 10, (by kernel_rfl)
              change wpList _ _ _ _ _ wr.drew
              have H4d : Fm wr.drew g4 ⟨false, d, z⟩ := H4r.out.later (Below.refl _ _).drew
              obtain ⟨q0, q33⟩ := H4d.cells HDK.out.1
              have qf := H4d.frozen 33
              have HZV := Lib.hid (H4r.out.setZ HDK.out.1 V1)
              have H4v : Hid (Fm (wr.setCell ⟨g4, 33, none⟩ (.int .i64 V1)).drew g4 ⟨false, d, accN 0 ((cs.drop 77).take (k + 1))⟩) := Lib.hid (by rw [HSTP.out]; exact HZV.out.later (Below.refl _ _).drew)
              have H2v : Hid (Fm (wr.setCell ⟨g4, 33, none⟩ (.int .i64 V1)).drew w.heap.size rf0) := Lib.hid ((H2r.out.other _ _ (Nat.ne_of_lt HLT.out)).later (Below.refl _ _).drew)
              have HBv : Hid (Below w.heap.size w (wr.setCell ⟨g4, 33, none⟩ (.int .i64 V1)).drew) := Lib.hid ((HBr.out.setCell (p := ⟨g4, 33, none⟩) (Nat.le_of_lt HLT.out) _).drew)
              clear H4d
              go_wp2
              refine ⟨⟨k + 1, hlt, ?_, H4v, H2v, HBv⟩, ?_⟩
              · rw [HI1.out]
              · rw [HI1.out]
                exact HME.out
            · obtain rfl : k = K := by omega
              have HZF : Hid (z = accN 0 ((cs.drop 77).take 10)) := Lib.hid (by
                rw [← hz]
                have h1 := HK.out
                by_cases h2 : 10 ≤ s.size - 77
                · rw [show k = 10 by omega]
                · rw [List.take_of_length_le (show (cs.drop 77).length ≤ k by rw [List.length_drop, HLN.out]; omega), List.take_of_length_le (show (cs.drop 77).length ≤ 10 by rw [List.length_drop, HLN.out]; omega)])
              rw [← HZF.out] at HQ
              clear hz HZB HX5 H45 H25 HB5
              have hik : i = 77 + k := hi.symm
              by_cases hj : (i : Int) < (s.size : Int)
              · have d1 : decide ((i : Int) < (s.size : Int)) = true := decide_eq_true hj
                have hj2 : ¬ (i : Int) < 87 := by have := HK.out; omega
                have d2 : decide ((i : Int) < 87) = false := decide_eq_false hj2
                clear hik hi
                go_upto_region 18 with fail
                have H45 := H4r
                have H25 := H2r
                have HB5 := HBr
                have HXO : Hid ((⟨false, d, z⟩ : Rf).Ok) := Lib.hid (rf_ok _ HDK.out (by omega))
                obtain ⟨X, hX⟩ : ∃ X : Rf, ⟨false, d, z⟩ = X := ⟨_, rfl⟩
                rw [hX] at HXO H45
                have HXD : Hid (X.dg.length = 32) := Lib.hid HXO.out.dg.1
                have HSS := Lib.hid fun W (h : Fm W g4 X) => h.range
                have HMC := Lib.hid (show (mixL X.a X.dg X.t).toArray = mixC X.a X.dg X.t from rfl)
                have HLZ : Hid ((Tryd.prog.info? 41).map (·.size) = some (mixL X.a X.dg X.t).length) := Lib.hid (by rw [mixL_length, HXD.out]; exact size34)
                have HXZ : Hid (X.z = z) := Lib.hid (by rw [← hX])
                have HSC := Lib.hid fun W (h : Fm W g4 X) => (h.cells HXD.out).2
                rw [HXZ.out] at HSC
                rw [hX] at HQ
                obtain ⟨LX, hLX⟩ : ∃ l, mixL X.a X.dg X.t = l := ⟨_, rfl⟩
                rw [hLX] at HSS HMC HLZ
                by_cases hz0 : 0 ≤ z
                · have e0 : decide (0 ≤ z) = true := decide_eq_true hz0
                  by_cases hz9 : z ≤ 999999999
                  · have e1 : decide (z ≤ 999999999) = true := decide_eq_true hz9
                    have hso : sizeOk X = true := by rw [← hX]; exact decide_eq_true ⟨hz0, hz9⟩
                    have HLI := Lib.hid fun W => rline17_any X W HXO.out hso
                    unfold Rf.v mixC at HLI
                    rw [hLX] at HLI
                    have hst := HSAME.out (lineN X) (lineN_mem HXO.out.dg)
                    obtain ⟨sb, hsb⟩ : ∃ b, decide (lineN X = cs) = b := ⟨_, rfl⟩
                    rw [hsb] at hst
                    have HXQ : Hid (sb = true → rdL cs = some X) := Lib.hid (fun h => by rw [HQ.out, if_pos ⟨hz0, hz9, of_decide_eq_true (hsb.trans h)⟩])
                    have HXN : Hid (sb = false → rdL cs = none) := Lib.hid (fun h => by rw [HQ.out, if_neg (fun hh => of_decide_eq_false (hsb.trans h) hh.2.2)])
                    generalize strOfNums (lineN X) = SL at *
                    clear hX hLX hsb hso
                    refine wp_region_held_drew (S := (fun W => W.rangeAt g4 0 LX ∧ W.cell? ⟨g4, 33, none⟩ = some (.int .i64 z))) (by kernel_rfl) (And.intro (HSS.out _ (H45.out.later (Below.refl _ _).drew)) (HSC.out _ (H45.out.later (Below.refl _ _).drew))) (fun hHeld => ?_)
                    refine take_at 0 rfl (by kernel_rfl) (by kernel_rfl) (by kernel_rfl) (fun _ _ _ h => h) (yieldsIf_load_mid (by rfl) _ _ rfl _ _ rfl _ _ (fun _ h => h.1) Tryd.underlying41 rfl HLZ.out) (by assumption) ?_
                    (try simp only [Act.put, List.setIfInBounds_toArray, List.set_cons_zero, List.set_cons_succ])
                    refine take_at 1 (v := ?vv9) rfl (by kernel_rfl) (by kernel_rfl) (by kernel_rfl) (fun _ _ _ h => h) (Or.inl ⟨by rfl, ?hy9⟩) (by assumption) ?rest9
                    case hy9 => intro w hSw; (try dsimp only at hSw); go_simp; (try with_reducible rfl)
                    (try simp only [Act.put, List.setIfInBounds_toArray, List.set_cons_zero, List.set_cons_succ])
                    refine take_at 2 (v := ?vv10) rfl (by kernel_rfl) (by kernel_rfl) (by kernel_rfl) (fun _ _ _ h => h) (Or.inl ⟨by rfl, ?hy10⟩) (by assumption) ?rest10
                    case hy10 => intro w hSw; (try dsimp only at hSw); go_simp; (try with_reducible rfl)
                    (try simp only [Act.put, List.setIfInBounds_toArray, List.set_cons_zero, List.set_cons_succ])
                    refine take_at 3 (v := ?vv11) rfl (by kernel_rfl) (by kernel_rfl) (by kernel_rfl) (fun _ _ _ h => h) (Or.inl ⟨by rfl, ?hy11⟩) (by assumption) ?rest11
                    case hy11 => intro w hSw; (try dsimp only at hSw); go_simp; (try with_reducible rfl)
                    (try simp only [Act.put, List.setIfInBounds_toArray, List.set_cons_zero, List.set_cons_succ])
                    refine take_at 4 (v := ?vv12) rfl (by kernel_rfl) (by kernel_rfl) (by kernel_rfl) (fun _ _ _ h => h) (Or.inl ⟨by rfl, ?hy12⟩) (by assumption) ?rest12
                    case hy12 => intro w hSw; (try dsimp only at hSw); go_simp; (try with_reducible rfl)
                    (try simp only [Act.put, List.setIfInBounds_toArray, List.set_cons_zero, List.set_cons_succ])
                    refine take_at 5 (v := ?vv13) rfl (by kernel_rfl) (by kernel_rfl) (by kernel_rfl) (fun _ _ _ h => h) (Or.inl ⟨by rfl, ?hy13⟩) (by assumption) ?rest13
                    case hy13 => intro w hSw; (try dsimp only at hSw); go_simp; (try with_reducible rfl)
                    (try simp only [Act.put, List.setIfInBounds_toArray, List.set_cons_zero, List.set_cons_succ])
                    refine take_at 6 (v := ?vv14) rfl (by kernel_rfl) (by kernel_rfl) (by kernel_rfl) (fun _ _ _ h => h) (Or.inl ⟨by rfl, ?hy14⟩) (by assumption) ?rest14
                    case hy14 => intro w hSw; (try dsimp only at hSw); go_simp; (try with_reducible rfl)
                    (try simp only [Act.put, List.setIfInBounds_toArray, List.set_cons_zero, List.set_cons_succ])
                    refine take_at 7 (v := ?vv15) rfl (by kernel_rfl) (by kernel_rfl) (by kernel_rfl) (fun _ _ _ h => h) (Or.inl ⟨by rfl, ?hy15⟩) (by assumption) ?rest15
                    case hy15 => intro w hSw; (try dsimp only at hSw); go_simp; (try with_reducible rfl)
                    (try simp only [Act.put, List.setIfInBounds_toArray, List.set_cons_zero, List.set_cons_succ])
                    refine take_at 8 (v := ?vv16) rfl (by kernel_rfl) (by kernel_rfl) (by kernel_rfl) (fun _ _ _ h => h) (Or.inl ⟨by rfl, ?hy16⟩) (by assumption) ?rest16
                    case hy16 => intro w hSw; (try dsimp only at hSw); go_simp; (try with_reducible rfl)
                    (try simp only [Act.put, List.setIfInBounds_toArray, List.set_cons_zero, List.set_cons_succ])
                    refine take_at 9 (v := ?vv17) rfl (by kernel_rfl) (by kernel_rfl) (by kernel_rfl) (fun _ _ _ h => h) (Or.inl ⟨by rfl, ?hy17⟩) (by assumption) ?rest17
                    case hy17 => intro w hSw; (try dsimp only at hSw); go_simp; (try with_reducible rfl)
                    (try simp only [Act.put, List.setIfInBounds_toArray, List.set_cons_zero, List.set_cons_succ])
                    refine take_at 10 rfl (by kernel_rfl) (by kernel_rfl) (by kernel_rfl) (fun _ _ _ h => h) (yieldsIf_load_mid (by rfl) _ _ rfl _ _ rfl _ _ (fun _ h => h.1) Tryd.underlying41 rfl HLZ.out) (by assumption) ?_
                    (try simp only [Act.put, List.setIfInBounds_toArray, List.set_cons_zero, List.set_cons_succ])
                    refine take_at 12 (v := ?vv19) rfl (by kernel_rfl) (by kernel_rfl) (by kernel_rfl) (fun _ _ _ h => h) (Or.inl ⟨by rfl, ?hy19⟩) (by assumption) ?rest19
                    case hy19 => intro w hSw; (try dsimp only at hSw); go_simp; (try with_reducible rfl)
                    (try simp only [Act.put, List.setIfInBounds_toArray, List.set_cons_zero, List.set_cons_succ])
                    refine ready_at 11 rfl (by kernel_rfl) (fun K hK => ?_)
                    go_simp
                    refine (HLI.out _).mono ?_
                    rintro e w7 ⟨rfl, hb7⟩
                    have HB7 : Hid (Below wr.heap.size wr w7) := Lib.hid (below_step (Below.refl wr.heap.size wr).drew hb7)
                    have H47 := Lib.hid (H45.out.later HB7.out)
                    have H27 := Lib.hid (H25.out.later HB7.out)
                    have HB8 := Lib.hid (below_step HB5.out HB7.out)
                    clear hb7
                    first
                      | refine hK.out _ _ ?hS20 (fun hHeld => ?rest20)
                      | (go_wp2_with fail; refine hK.out _ _ ?hS20 (fun hHeld => ?rest20))
                    case hS20 => exact And.intro (HSS.out _ H47.out) (HSC.out _ H47.out)
                    clear hK K
                    (try simp only [Act.put, List.setIfInBounds_toArray, List.set_cons_zero, List.set_cons_succ])
                    refine take_at 13 (v := ?vv21) rfl (by kernel_rfl) (by kernel_rfl) (by kernel_rfl) (fun _ _ _ h => h) (Or.inl ⟨by rfl, ?hy21⟩) (by assumption) ?rest21
                    case hy21 => intro w hSw; (try dsimp only at hSw); go_simp; (try with_reducible rfl)
                    (try simp only [Act.put, List.setIfInBounds_toArray, List.set_cons_zero, List.set_cons_succ])
                    refine take_at 14 (v := ?vv22) rfl (by kernel_rfl) (by kernel_rfl) (by kernel_rfl) (fun _ _ _ h => h) (Or.inl ⟨by rfl, ?hy22⟩) (by assumption) ?rest22
                    case hy22 => intro w hSw; (try dsimp only at hSw); go_simp; (try with_reducible rfl)
                    (try simp only [Act.put, List.setIfInBounds_toArray, List.set_cons_zero, List.set_cons_succ])
                    refine ready_at 15 rfl (by kernel_rfl) (fun K hK => ?_)
                    rw [if_pos (by rfl)]
                    rw [HMC.out]
                    refine wp_store_row 41 _ _ rfl w.heap.size _ rfl rfl 41 _ H27.out (Rf.sizeOf X HXD.out) (Rf.sizes rf0 X rfl HXD.out) (Rf.one X) ?_
                    generalize hwZ : World.setRow _ _ _ = wZ
                    have HZ : Hid (Fm wZ w.heap.size X) := Lib.hid (by rw [← hwZ]; exact H27.out.row)
                    have HZB : Hid (Below w.heap.size w wZ) := Lib.hid (by rw [← hwZ]; exact below_setRow8 HB8.out _ _ (Nat.le_refl _))
                    have HZ4 : Hid (Fm wZ g4 X) := Lib.hid (H47.out.keep (rkeep_row hwZ _ (Nat.ne_of_gt HLT.out)))
                    clear hwZ
                    refine hK.out _ _ ?hS23 (fun hHeld => ?rest23)
                    case hS23 => exact And.intro (HSS.out _ HZ4.out) (HSC.out _ HZ4.out)
                    clear hK K
                    (try simp only [Act.put, List.setIfInBounds_toArray, List.set_cons_zero, List.set_cons_succ])
                    refine take_at 16 (v := ?vv24) rfl (by kernel_rfl) (by kernel_rfl) (by kernel_rfl) (fun _ _ _ h => h) (Or.inl ⟨by rfl, ?hy24⟩) (by assumption) ?rest24
                    case hy24 => intro w hSw; (try dsimp only at hSw); go_simp; (try with_reducible rfl)
                    (try simp only [Act.put, List.setIfInBounds_toArray, List.set_cons_zero, List.set_cons_succ])
                    refine wpAnyH_done (by kernel_rfl) ?_ _
                    go_wp2
                    refine bodyPost_ret (HZ.out.res2 HXD.out rfl _ rfl) rfl ?_
                    exact LnQ.of X sb HXO.out HXQ.out HXN.out HZB.out rfl
                  · have e1 : decide (z ≤ 999999999) = false := decide_eq_false hz9
                    have HNO : Hid (rdL cs = none) := Lib.hid (by rw [HQ.out, if_neg (fun hh => hz9 hh.2.1)])
                    clear hX hLX
                    have HDRW : Hid (Fm wr.drew w.heap.size rf0) := Lib.hid (H25.out.later (Below.refl _ _).drew)
                    have HDR4 : Hid (Fm wr.drew g4 X) := Lib.hid (H45.out.later (Below.refl _ _).drew)
                    have HBD : Hid (Below w.heap.size w wr.drew) := Lib.hid HB5.out.drew
                    refine wp_region_held_drew (S := (fun W => W.rangeAt g4 0 LX ∧ W.cell? ⟨g4, 33, none⟩ = some (.int .i64 z))) (by kernel_rfl) (And.intro (HSS.out _ (H45.out.later (Below.refl _ _).drew)) (HSC.out _ (H45.out.later (Below.refl _ _).drew))) (fun hHeld => ?_)
                    refine take_at 0 rfl (by kernel_rfl) (by kernel_rfl) (by kernel_rfl) (fun _ _ _ h => h) (yieldsIf_load_mid (by rfl) _ _ rfl _ _ rfl _ _ (fun _ h => h.1) Tryd.underlying41 rfl HLZ.out) (by assumption) ?_
                    (try simp only [Act.put, List.setIfInBounds_toArray, List.set_cons_zero, List.set_cons_succ])
                    refine take_at 1 (v := ?vv26) rfl (by kernel_rfl) (by kernel_rfl) (by kernel_rfl) (fun _ _ _ h => h) (Or.inl ⟨by rfl, ?hy26⟩) (by assumption) ?rest26
                    case hy26 => intro w hSw; (try dsimp only at hSw); go_simp; (try with_reducible rfl)
                    (try simp only [Act.put, List.setIfInBounds_toArray, List.set_cons_zero, List.set_cons_succ])
                    refine take_at 2 (v := ?vv27) rfl (by kernel_rfl) (by kernel_rfl) (by kernel_rfl) (fun _ _ _ h => h) (Or.inl ⟨by rfl, ?hy27⟩) (by assumption) ?rest27
                    case hy27 => intro w hSw; (try dsimp only at hSw); go_simp; (try with_reducible rfl)
                    (try simp only [Act.put, List.setIfInBounds_toArray, List.set_cons_zero, List.set_cons_succ])
                    refine take_at 3 (v := ?vv28) rfl (by kernel_rfl) (by kernel_rfl) (by kernel_rfl) (fun _ _ _ h => h) (Or.inl ⟨by rfl, ?hy28⟩) (by assumption) ?rest28
                    case hy28 => intro w hSw; (try dsimp only at hSw); go_simp; (try with_reducible rfl)
                    (try simp only [Act.put, List.setIfInBounds_toArray, List.set_cons_zero, List.set_cons_succ])
                    refine take_at 4 (v := ?vv29) rfl (by kernel_rfl) (by kernel_rfl) (by kernel_rfl) (fun _ _ _ h => h) (Or.inl ⟨by rfl, ?hy29⟩) (by assumption) ?rest29
                    case hy29 => intro w hSw; (try dsimp only at hSw); go_simp; (try with_reducible rfl)
                    (try simp only [Act.put, List.setIfInBounds_toArray, List.set_cons_zero, List.set_cons_succ])
                    refine take_at 5 (v := ?vv30) rfl (by kernel_rfl) (by kernel_rfl) (by kernel_rfl) (fun _ _ _ h => h) (Or.inl ⟨by rfl, ?hy30⟩) (by assumption) ?rest30
                    case hy30 => intro w hSw; (try dsimp only at hSw); go_simp; (try with_reducible rfl)
                    (try simp only [Act.put, List.setIfInBounds_toArray, List.set_cons_zero, List.set_cons_succ])
                    refine take_at 6 (v := ?vv31) rfl (by kernel_rfl) (by kernel_rfl) (by kernel_rfl) (fun _ _ _ h => h) (Or.inl ⟨by rfl, ?hy31⟩) (by assumption) ?rest31
                    case hy31 => intro w hSw; (try dsimp only at hSw); go_simp; (try with_reducible rfl)
                    (try simp only [Act.put, List.setIfInBounds_toArray, List.set_cons_zero, List.set_cons_succ])
                    refine take_at 7 (v := ?vv32) rfl (by kernel_rfl) (by kernel_rfl) (by kernel_rfl) (fun _ _ _ h => h) (Or.inl ⟨by rfl, ?hy32⟩) (by assumption) ?rest32
                    case hy32 => intro w hSw; (try dsimp only at hSw); go_simp; (try with_reducible rfl)
                    (try simp only [Act.put, List.setIfInBounds_toArray, List.set_cons_zero, List.set_cons_succ])
                    refine take_at 8 (v := ?vv33) rfl (by kernel_rfl) (by kernel_rfl) (by kernel_rfl) (fun _ _ _ h => h) (Or.inl ⟨by rfl, ?hy33⟩) (by assumption) ?rest33
                    case hy33 => intro w hSw; (try dsimp only at hSw); go_simp; (try with_reducible rfl)
                    (try simp only [Act.put, List.setIfInBounds_toArray, List.set_cons_zero, List.set_cons_succ])
                    refine take_at 9 (v := ?vv34) rfl (by kernel_rfl) (by kernel_rfl) (by kernel_rfl) (fun _ _ _ h => h) (Or.inl ⟨by rfl, ?hy34⟩) (by assumption) ?rest34
                    case hy34 => intro w hSw; (try dsimp only at hSw); go_simp; (try with_reducible rfl)
                    (try simp only [Act.put, List.setIfInBounds_toArray, List.set_cons_zero, List.set_cons_succ])
                    refine take_at 10 (v := undef) rfl (by kernel_rfl) (by kernel_rfl) (by kernel_rfl) (fun _ _ _ h => h) (Or.inr ⟨by rfl, rfl⟩) (by assumption) ?_
                    (try simp only [Act.put, List.setIfInBounds_toArray, List.set_cons_zero, List.set_cons_succ])
                    refine take_at 11 (v := undef) rfl (by kernel_rfl) (by kernel_rfl) (by kernel_rfl) (fun _ _ _ h => h) (Or.inr ⟨by rfl, rfl⟩) (by assumption) ?_
                    (try simp only [Act.put, List.setIfInBounds_toArray, List.set_cons_zero, List.set_cons_succ])
                    refine take_at 12 (v := undef) rfl (by kernel_rfl) (by kernel_rfl) (by kernel_rfl) (fun _ _ _ h => h) (Or.inr ⟨by rfl, rfl⟩) (by assumption) ?_
                    (try simp only [Act.put, List.setIfInBounds_toArray, List.set_cons_zero, List.set_cons_succ])
                    refine take_at 13 (v := undef) rfl (by kernel_rfl) (by kernel_rfl) (by kernel_rfl) (fun _ _ _ h => h) (Or.inr ⟨by rfl, rfl⟩) (by assumption) ?_
                    (try simp only [Act.put, List.setIfInBounds_toArray, List.set_cons_zero, List.set_cons_succ])
                    refine take_at 14 (v := ?vv39) rfl (by kernel_rfl) (by kernel_rfl) (by kernel_rfl) (fun _ _ _ h => h) (Or.inl ⟨by rfl, ?hy39⟩) (by assumption) ?rest39
                    case hy39 => intro w hSw; (try dsimp only at hSw); go_simp; (try with_reducible rfl)
                    (try simp only [Act.put, List.setIfInBounds_toArray, List.set_cons_zero, List.set_cons_succ])
                    refine ready_at 15 rfl (by kernel_rfl) (fun K hK => ?_)
                    rw [if_pos (by rfl)]
                    rw [HMC.out]
                    refine wp_store_row 41 _ _ rfl w.heap.size _ rfl rfl 41 _ HDRW.out (Rf.sizeOf X HXD.out) (Rf.sizes rf0 X rfl HXD.out) (Rf.one X) ?_
                    generalize hwZ : World.setRow _ _ _ = wZ
                    have HZ : Hid (Fm wZ w.heap.size X) := Lib.hid (by rw [← hwZ]; exact HDRW.out.row)
                    have HZB : Hid (Below w.heap.size w wZ) := Lib.hid (by rw [← hwZ]; exact below_setRow8 HBD.out _ _ (Nat.le_refl _))
                    have HZ4 : Hid (Fm wZ g4 X) := Lib.hid (HDR4.out.keep (rkeep_row hwZ _ (Nat.ne_of_gt HLT.out)))
                    clear hwZ
                    refine hK.out _ _ ?hS40 (fun hHeld => ?rest40)
                    case hS40 => exact And.intro (HSS.out _ HZ4.out) (HSC.out _ HZ4.out)
                    clear hK K
                    (try simp only [Act.put, List.setIfInBounds_toArray, List.set_cons_zero, List.set_cons_succ])
                    refine take_at 16 (v := ?vv41) rfl (by kernel_rfl) (by kernel_rfl) (by kernel_rfl) (fun _ _ _ h => h) (Or.inl ⟨by rfl, ?hy41⟩) (by assumption) ?rest41
                    case hy41 => intro w hSw; (try dsimp only at hSw); go_simp; (try with_reducible rfl)
                    (try simp only [Act.put, List.setIfInBounds_toArray, List.set_cons_zero, List.set_cons_succ])
                    refine wpAnyH_done (by kernel_rfl) ?_ _
                    go_wp2
                    refine bodyPost_ret (HZ.out.res2 HXD.out rfl _ rfl) rfl ?_
                    exact LnQ.of X false HXO.out (fun h => by cases h) (fun _ => HNO.out) HZB.out rfl
                · have e0 : decide (0 ≤ z) = false := decide_eq_false hz0
                  have HNO : Hid (rdL cs = none) := Lib.hid (by rw [HQ.out, if_neg (fun hh => hz0 hh.1)])
                  clear hX hLX
                  have HDRW : Hid (Fm wr.drew w.heap.size rf0) := Lib.hid (H25.out.later (Below.refl _ _).drew)
                  have HDR4 : Hid (Fm wr.drew g4 X) := Lib.hid (H45.out.later (Below.refl _ _).drew)
                  have HBD : Hid (Below w.heap.size w wr.drew) := Lib.hid HB5.out.drew
                  refine wp_region_held_drew (S := (fun W => W.rangeAt g4 0 LX ∧ W.cell? ⟨g4, 33, none⟩ = some (.int .i64 z))) (by kernel_rfl) (And.intro (HSS.out _ (H45.out.later (Below.refl _ _).drew)) (HSC.out _ (H45.out.later (Below.refl _ _).drew))) (fun hHeld => ?_)
                  refine take_at 0 rfl (by kernel_rfl) (by kernel_rfl) (by kernel_rfl) (fun _ _ _ h => h) (yieldsIf_load_mid (by rfl) _ _ rfl _ _ rfl _ _ (fun _ h => h.1) Tryd.underlying41 rfl HLZ.out) (by assumption) ?_
                  (try simp only [Act.put, List.setIfInBounds_toArray, List.set_cons_zero, List.set_cons_succ])
                  refine take_at 1 (v := ?vv43) rfl (by kernel_rfl) (by kernel_rfl) (by kernel_rfl) (fun _ _ _ h => h) (Or.inl ⟨by rfl, ?hy43⟩) (by assumption) ?rest43
                  case hy43 => intro w hSw; (try dsimp only at hSw); go_simp; (try with_reducible rfl)
                  (try simp only [Act.put, List.setIfInBounds_toArray, List.set_cons_zero, List.set_cons_succ])
                  refine take_at 2 (v := ?vv44) rfl (by kernel_rfl) (by kernel_rfl) (by kernel_rfl) (fun _ _ _ h => h) (Or.inl ⟨by rfl, ?hy44⟩) (by assumption) ?rest44
                  case hy44 => intro w hSw; (try dsimp only at hSw); go_simp; (try with_reducible rfl)
                  (try simp only [Act.put, List.setIfInBounds_toArray, List.set_cons_zero, List.set_cons_succ])
                  refine take_at 3 (v := ?vv45) rfl (by kernel_rfl) (by kernel_rfl) (by kernel_rfl) (fun _ _ _ h => h) (Or.inl ⟨by rfl, ?hy45⟩) (by assumption) ?rest45
                  case hy45 => intro w hSw; (try dsimp only at hSw); go_simp; (try with_reducible rfl)
                  (try simp only [Act.put, List.setIfInBounds_toArray, List.set_cons_zero, List.set_cons_succ])
                  refine take_at 4 (v := ?vv46) rfl (by kernel_rfl) (by kernel_rfl) (by kernel_rfl) (fun _ _ _ h => h) (Or.inl ⟨by rfl, ?hy46⟩) (by assumption) ?rest46
                  case hy46 => intro w hSw; (try dsimp only at hSw); go_simp; (try with_reducible rfl)
                  (try simp only [Act.put, List.setIfInBounds_toArray, List.set_cons_zero, List.set_cons_succ])
                  refine take_at 5 (v := undef) rfl (by kernel_rfl) (by kernel_rfl) (by kernel_rfl) (fun _ _ _ h => h) (Or.inr ⟨by rfl, rfl⟩) (by assumption) ?_
                  (try simp only [Act.put, List.setIfInBounds_toArray, List.set_cons_zero, List.set_cons_succ])
                  refine take_at 6 (v := undef) rfl (by kernel_rfl) (by kernel_rfl) (by kernel_rfl) (fun _ _ _ h => h) (Or.inr ⟨by rfl, rfl⟩) (by assumption) ?_
                  (try simp only [Act.put, List.setIfInBounds_toArray, List.set_cons_zero, List.set_cons_succ])
                  refine take_at 7 (v := undef) rfl (by kernel_rfl) (by kernel_rfl) (by kernel_rfl) (fun _ _ _ h => h) (Or.inr ⟨by rfl, rfl⟩) (by assumption) ?_
                  (try simp only [Act.put, List.setIfInBounds_toArray, List.set_cons_zero, List.set_cons_succ])
                  refine take_at 8 (v := ?vv50) rfl (by kernel_rfl) (by kernel_rfl) (by kernel_rfl) (fun _ _ _ h => h) (Or.inl ⟨by rfl, ?hy50⟩) (by assumption) ?rest50
                  case hy50 => intro w hSw; (try dsimp only at hSw); go_simp; (try with_reducible rfl)
                  (try simp only [Act.put, List.setIfInBounds_toArray, List.set_cons_zero, List.set_cons_succ])
                  refine take_at 9 (v := ?vv51) rfl (by kernel_rfl) (by kernel_rfl) (by kernel_rfl) (fun _ _ _ h => h) (Or.inl ⟨by rfl, ?hy51⟩) (by assumption) ?rest51
                  case hy51 => intro w hSw; (try dsimp only at hSw); go_simp; (try with_reducible rfl)
                  (try simp only [Act.put, List.setIfInBounds_toArray, List.set_cons_zero, List.set_cons_succ])
                  refine take_at 10 (v := undef) rfl (by kernel_rfl) (by kernel_rfl) (by kernel_rfl) (fun _ _ _ h => h) (Or.inr ⟨by rfl, rfl⟩) (by assumption) ?_
                  (try simp only [Act.put, List.setIfInBounds_toArray, List.set_cons_zero, List.set_cons_succ])
                  refine take_at 11 (v := undef) rfl (by kernel_rfl) (by kernel_rfl) (by kernel_rfl) (fun _ _ _ h => h) (Or.inr ⟨by rfl, rfl⟩) (by assumption) ?_
                  (try simp only [Act.put, List.setIfInBounds_toArray, List.set_cons_zero, List.set_cons_succ])
                  refine take_at 12 (v := undef) rfl (by kernel_rfl) (by kernel_rfl) (by kernel_rfl) (fun _ _ _ h => h) (Or.inr ⟨by rfl, rfl⟩) (by assumption) ?_
                  (try simp only [Act.put, List.setIfInBounds_toArray, List.set_cons_zero, List.set_cons_succ])
                  refine take_at 13 (v := undef) rfl (by kernel_rfl) (by kernel_rfl) (by kernel_rfl) (fun _ _ _ h => h) (Or.inr ⟨by rfl, rfl⟩) (by assumption) ?_
                  (try simp only [Act.put, List.setIfInBounds_toArray, List.set_cons_zero, List.set_cons_succ])
                  refine take_at 14 (v := ?vv56) rfl (by kernel_rfl) (by kernel_rfl) (by kernel_rfl) (fun _ _ _ h => h) (Or.inl ⟨by rfl, ?hy56⟩) (by assumption) ?rest56
                  case hy56 => intro w hSw; (try dsimp only at hSw); go_simp; (try with_reducible rfl)
                  (try simp only [Act.put, List.setIfInBounds_toArray, List.set_cons_zero, List.set_cons_succ])
                  refine ready_at 15 rfl (by kernel_rfl) (fun K hK => ?_)
                  rw [if_pos (by rfl)]
                  rw [HMC.out]
                  refine wp_store_row 41 _ _ rfl w.heap.size _ rfl rfl 41 _ HDRW.out (Rf.sizeOf X HXD.out) (Rf.sizes rf0 X rfl HXD.out) (Rf.one X) ?_
                  generalize hwZ : World.setRow _ _ _ = wZ
                  have HZ : Hid (Fm wZ w.heap.size X) := Lib.hid (by rw [← hwZ]; exact HDRW.out.row)
                  have HZB : Hid (Below w.heap.size w wZ) := Lib.hid (by rw [← hwZ]; exact below_setRow8 HBD.out _ _ (Nat.le_refl _))
                  have HZ4 : Hid (Fm wZ g4 X) := Lib.hid (HDR4.out.keep (rkeep_row hwZ _ (Nat.ne_of_gt HLT.out)))
                  clear hwZ
                  refine hK.out _ _ ?hS57 (fun hHeld => ?rest57)
                  case hS57 => exact And.intro (HSS.out _ HZ4.out) (HSC.out _ HZ4.out)
                  clear hK K
                  (try simp only [Act.put, List.setIfInBounds_toArray, List.set_cons_zero, List.set_cons_succ])
                  refine take_at 16 (v := ?vv58) rfl (by kernel_rfl) (by kernel_rfl) (by kernel_rfl) (fun _ _ _ h => h) (Or.inl ⟨by rfl, ?hy58⟩) (by assumption) ?rest58
                  case hy58 => intro w hSw; (try dsimp only at hSw); go_simp; (try with_reducible rfl)
                  (try simp only [Act.put, List.setIfInBounds_toArray, List.set_cons_zero, List.set_cons_succ])
                  refine wpAnyH_done (by kernel_rfl) ?_ _
                  go_wp2
                  refine bodyPost_ret (HZ.out.res2 HXD.out rfl _ rfl) rfl ?_
                  exact LnQ.of X false HXO.out (fun h => by cases h) (fun _ => HNO.out) HZB.out rfl
              · have d1 : decide ((i : Int) < (s.size : Int)) = false := decide_eq_false hj
                clear hik hi
                go_upto_region 18 with fail
                have H45 := H4r
                have H25 := H2r
                have HB5 := HBr
                have HXO : Hid ((⟨false, d, z⟩ : Rf).Ok) := Lib.hid (rf_ok _ HDK.out (by omega))
                obtain ⟨X, hX⟩ : ∃ X : Rf, ⟨false, d, z⟩ = X := ⟨_, rfl⟩
                rw [hX] at HXO H45
                have HXD : Hid (X.dg.length = 32) := Lib.hid HXO.out.dg.1
                have HSS := Lib.hid fun W (h : Fm W g4 X) => h.range
                have HMC := Lib.hid (show (mixL X.a X.dg X.t).toArray = mixC X.a X.dg X.t from rfl)
                have HLZ : Hid ((Tryd.prog.info? 41).map (·.size) = some (mixL X.a X.dg X.t).length) := Lib.hid (by rw [mixL_length, HXD.out]; exact size34)
                have HXZ : Hid (X.z = z) := Lib.hid (by rw [← hX])
                have HSC := Lib.hid fun W (h : Fm W g4 X) => (h.cells HXD.out).2
                rw [HXZ.out] at HSC
                rw [hX] at HQ
                obtain ⟨LX, hLX⟩ : ∃ l, mixL X.a X.dg X.t = l := ⟨_, rfl⟩
                rw [hLX] at HSS HMC HLZ
                by_cases hz0 : 0 ≤ z
                · have e0 : decide (0 ≤ z) = true := decide_eq_true hz0
                  by_cases hz9 : z ≤ 999999999
                  · have e1 : decide (z ≤ 999999999) = true := decide_eq_true hz9
                    have hso : sizeOk X = true := by rw [← hX]; exact decide_eq_true ⟨hz0, hz9⟩
                    have HLI := Lib.hid fun W => rline17_any X W HXO.out hso
                    unfold Rf.v mixC at HLI
                    rw [hLX] at HLI
                    have hst := HSAME.out (lineN X) (lineN_mem HXO.out.dg)
                    obtain ⟨sb, hsb⟩ : ∃ b, decide (lineN X = cs) = b := ⟨_, rfl⟩
                    rw [hsb] at hst
                    have HXQ : Hid (sb = true → rdL cs = some X) := Lib.hid (fun h => by rw [HQ.out, if_pos ⟨hz0, hz9, of_decide_eq_true (hsb.trans h)⟩])
                    have HXN : Hid (sb = false → rdL cs = none) := Lib.hid (fun h => by rw [HQ.out, if_neg (fun hh => of_decide_eq_false (hsb.trans h) hh.2.2)])
                    generalize strOfNums (lineN X) = SL at *
                    clear hX hLX hsb hso
                    refine wp_region_held_drew (S := (fun W => W.rangeAt g4 0 LX ∧ W.cell? ⟨g4, 33, none⟩ = some (.int .i64 z))) (by kernel_rfl) (And.intro (HSS.out _ (H45.out.later (Below.refl _ _).drew)) (HSC.out _ (H45.out.later (Below.refl _ _).drew))) (fun hHeld => ?_)
                    refine take_at 0 rfl (by kernel_rfl) (by kernel_rfl) (by kernel_rfl) (fun _ _ _ h => h) (yieldsIf_load_mid (by rfl) _ _ rfl _ _ rfl _ _ (fun _ h => h.1) Tryd.underlying41 rfl HLZ.out) (by assumption) ?_
                    (try simp only [Act.put, List.setIfInBounds_toArray, List.set_cons_zero, List.set_cons_succ])
                    refine take_at 1 (v := ?vv60) rfl (by kernel_rfl) (by kernel_rfl) (by kernel_rfl) (fun _ _ _ h => h) (Or.inl ⟨by rfl, ?hy60⟩) (by assumption) ?rest60
                    case hy60 => intro w hSw; (try dsimp only at hSw); go_simp; (try with_reducible rfl)
                    (try simp only [Act.put, List.setIfInBounds_toArray, List.set_cons_zero, List.set_cons_succ])
                    refine take_at 2 (v := ?vv61) rfl (by kernel_rfl) (by kernel_rfl) (by kernel_rfl) (fun _ _ _ h => h) (Or.inl ⟨by rfl, ?hy61⟩) (by assumption) ?rest61
                    case hy61 => intro w hSw; (try dsimp only at hSw); go_simp; (try with_reducible rfl)
                    (try simp only [Act.put, List.setIfInBounds_toArray, List.set_cons_zero, List.set_cons_succ])
                    refine take_at 3 (v := ?vv62) rfl (by kernel_rfl) (by kernel_rfl) (by kernel_rfl) (fun _ _ _ h => h) (Or.inl ⟨by rfl, ?hy62⟩) (by assumption) ?rest62
                    case hy62 => intro w hSw; (try dsimp only at hSw); go_simp; (try with_reducible rfl)
                    (try simp only [Act.put, List.setIfInBounds_toArray, List.set_cons_zero, List.set_cons_succ])
                    refine take_at 4 (v := ?vv63) rfl (by kernel_rfl) (by kernel_rfl) (by kernel_rfl) (fun _ _ _ h => h) (Or.inl ⟨by rfl, ?hy63⟩) (by assumption) ?rest63
                    case hy63 => intro w hSw; (try dsimp only at hSw); go_simp; (try with_reducible rfl)
                    (try simp only [Act.put, List.setIfInBounds_toArray, List.set_cons_zero, List.set_cons_succ])
                    refine take_at 5 (v := ?vv64) rfl (by kernel_rfl) (by kernel_rfl) (by kernel_rfl) (fun _ _ _ h => h) (Or.inl ⟨by rfl, ?hy64⟩) (by assumption) ?rest64
                    case hy64 => intro w hSw; (try dsimp only at hSw); go_simp; (try with_reducible rfl)
                    (try simp only [Act.put, List.setIfInBounds_toArray, List.set_cons_zero, List.set_cons_succ])
                    refine take_at 6 (v := ?vv65) rfl (by kernel_rfl) (by kernel_rfl) (by kernel_rfl) (fun _ _ _ h => h) (Or.inl ⟨by rfl, ?hy65⟩) (by assumption) ?rest65
                    case hy65 => intro w hSw; (try dsimp only at hSw); go_simp; (try with_reducible rfl)
                    (try simp only [Act.put, List.setIfInBounds_toArray, List.set_cons_zero, List.set_cons_succ])
                    refine take_at 7 (v := ?vv66) rfl (by kernel_rfl) (by kernel_rfl) (by kernel_rfl) (fun _ _ _ h => h) (Or.inl ⟨by rfl, ?hy66⟩) (by assumption) ?rest66
                    case hy66 => intro w hSw; (try dsimp only at hSw); go_simp; (try with_reducible rfl)
                    (try simp only [Act.put, List.setIfInBounds_toArray, List.set_cons_zero, List.set_cons_succ])
                    refine take_at 8 (v := ?vv67) rfl (by kernel_rfl) (by kernel_rfl) (by kernel_rfl) (fun _ _ _ h => h) (Or.inl ⟨by rfl, ?hy67⟩) (by assumption) ?rest67
                    case hy67 => intro w hSw; (try dsimp only at hSw); go_simp; (try with_reducible rfl)
                    (try simp only [Act.put, List.setIfInBounds_toArray, List.set_cons_zero, List.set_cons_succ])
                    refine take_at 9 (v := ?vv68) rfl (by kernel_rfl) (by kernel_rfl) (by kernel_rfl) (fun _ _ _ h => h) (Or.inl ⟨by rfl, ?hy68⟩) (by assumption) ?rest68
                    case hy68 => intro w hSw; (try dsimp only at hSw); go_simp; (try with_reducible rfl)
                    (try simp only [Act.put, List.setIfInBounds_toArray, List.set_cons_zero, List.set_cons_succ])
                    refine take_at 10 rfl (by kernel_rfl) (by kernel_rfl) (by kernel_rfl) (fun _ _ _ h => h) (yieldsIf_load_mid (by rfl) _ _ rfl _ _ rfl _ _ (fun _ h => h.1) Tryd.underlying41 rfl HLZ.out) (by assumption) ?_
                    (try simp only [Act.put, List.setIfInBounds_toArray, List.set_cons_zero, List.set_cons_succ])
                    refine take_at 12 (v := ?vv70) rfl (by kernel_rfl) (by kernel_rfl) (by kernel_rfl) (fun _ _ _ h => h) (Or.inl ⟨by rfl, ?hy70⟩) (by assumption) ?rest70
                    case hy70 => intro w hSw; (try dsimp only at hSw); go_simp; (try with_reducible rfl)
                    (try simp only [Act.put, List.setIfInBounds_toArray, List.set_cons_zero, List.set_cons_succ])
                    refine ready_at 11 rfl (by kernel_rfl) (fun K hK => ?_)
                    go_simp
                    refine (HLI.out _).mono ?_
                    rintro e w7 ⟨rfl, hb7⟩
                    have HB7 : Hid (Below wr.heap.size wr w7) := Lib.hid (below_step (Below.refl wr.heap.size wr).drew hb7)
                    have H47 := Lib.hid (H45.out.later HB7.out)
                    have H27 := Lib.hid (H25.out.later HB7.out)
                    have HB8 := Lib.hid (below_step HB5.out HB7.out)
                    clear hb7
                    first
                      | refine hK.out _ _ ?hS71 (fun hHeld => ?rest71)
                      | (go_wp2_with fail; refine hK.out _ _ ?hS71 (fun hHeld => ?rest71))
                    case hS71 => exact And.intro (HSS.out _ H47.out) (HSC.out _ H47.out)
                    clear hK K
                    (try simp only [Act.put, List.setIfInBounds_toArray, List.set_cons_zero, List.set_cons_succ])
                    refine take_at 13 (v := ?vv72) rfl (by kernel_rfl) (by kernel_rfl) (by kernel_rfl) (fun _ _ _ h => h) (Or.inl ⟨by rfl, ?hy72⟩) (by assumption) ?rest72
                    case hy72 => intro w hSw; (try dsimp only at hSw); go_simp; (try with_reducible rfl)
                    (try simp only [Act.put, List.setIfInBounds_toArray, List.set_cons_zero, List.set_cons_succ])
                    refine take_at 14 (v := ?vv73) rfl (by kernel_rfl) (by kernel_rfl) (by kernel_rfl) (fun _ _ _ h => h) (Or.inl ⟨by rfl, ?hy73⟩) (by assumption) ?rest73
                    case hy73 => intro w hSw; (try dsimp only at hSw); go_simp; (try with_reducible rfl)
                    (try simp only [Act.put, List.setIfInBounds_toArray, List.set_cons_zero, List.set_cons_succ])
                    refine ready_at 15 rfl (by kernel_rfl) (fun K hK => ?_)
                    rw [if_pos (by rfl)]
                    rw [HMC.out]
                    refine wp_store_row 41 _ _ rfl w.heap.size _ rfl rfl 41 _ H27.out (Rf.sizeOf X HXD.out) (Rf.sizes rf0 X rfl HXD.out) (Rf.one X) ?_
                    generalize hwZ : World.setRow _ _ _ = wZ
                    have HZ : Hid (Fm wZ w.heap.size X) := Lib.hid (by rw [← hwZ]; exact H27.out.row)
                    have HZB : Hid (Below w.heap.size w wZ) := Lib.hid (by rw [← hwZ]; exact below_setRow8 HB8.out _ _ (Nat.le_refl _))
                    have HZ4 : Hid (Fm wZ g4 X) := Lib.hid (H47.out.keep (rkeep_row hwZ _ (Nat.ne_of_gt HLT.out)))
                    clear hwZ
                    refine hK.out _ _ ?hS74 (fun hHeld => ?rest74)
                    case hS74 => exact And.intro (HSS.out _ HZ4.out) (HSC.out _ HZ4.out)
                    clear hK K
                    (try simp only [Act.put, List.setIfInBounds_toArray, List.set_cons_zero, List.set_cons_succ])
                    refine take_at 16 (v := ?vv75) rfl (by kernel_rfl) (by kernel_rfl) (by kernel_rfl) (fun _ _ _ h => h) (Or.inl ⟨by rfl, ?hy75⟩) (by assumption) ?rest75
                    case hy75 => intro w hSw; (try dsimp only at hSw); go_simp; (try with_reducible rfl)
                    (try simp only [Act.put, List.setIfInBounds_toArray, List.set_cons_zero, List.set_cons_succ])
                    refine wpAnyH_done (by kernel_rfl) ?_ _
                    go_wp2
                    refine bodyPost_ret (HZ.out.res2 HXD.out rfl _ rfl) rfl ?_
                    exact LnQ.of X sb HXO.out HXQ.out HXN.out HZB.out rfl
                  · have e1 : decide (z ≤ 999999999) = false := decide_eq_false hz9
                    have HNO : Hid (rdL cs = none) := Lib.hid (by rw [HQ.out, if_neg (fun hh => hz9 hh.2.1)])
                    clear hX hLX
                    have HDRW : Hid (Fm wr.drew w.heap.size rf0) := Lib.hid (H25.out.later (Below.refl _ _).drew)
                    have HDR4 : Hid (Fm wr.drew g4 X) := Lib.hid (H45.out.later (Below.refl _ _).drew)
                    have HBD : Hid (Below w.heap.size w wr.drew) := Lib.hid HB5.out.drew
                    refine wp_region_held_drew (S := (fun W => W.rangeAt g4 0 LX ∧ W.cell? ⟨g4, 33, none⟩ = some (.int .i64 z))) (by kernel_rfl) (And.intro (HSS.out _ (H45.out.later (Below.refl _ _).drew)) (HSC.out _ (H45.out.later (Below.refl _ _).drew))) (fun hHeld => ?_)
                    refine take_at 0 rfl (by kernel_rfl) (by kernel_rfl) (by kernel_rfl) (fun _ _ _ h => h) (yieldsIf_load_mid (by rfl) _ _ rfl _ _ rfl _ _ (fun _ h => h.1) Tryd.underlying41 rfl HLZ.out) (by assumption) ?_
                    (try simp only [Act.put, List.setIfInBounds_toArray, List.set_cons_zero, List.set_cons_succ])
                    refine take_at 1 (v := ?vv77) rfl (by kernel_rfl) (by kernel_rfl) (by kernel_rfl) (fun _ _ _ h => h) (Or.inl ⟨by rfl, ?hy77⟩) (by assumption) ?rest77
                    case hy77 => intro w hSw; (try dsimp only at hSw); go_simp; (try with_reducible rfl)
                    (try simp only [Act.put, List.setIfInBounds_toArray, List.set_cons_zero, List.set_cons_succ])
                    refine take_at 2 (v := ?vv78) rfl (by kernel_rfl) (by kernel_rfl) (by kernel_rfl) (fun _ _ _ h => h) (Or.inl ⟨by rfl, ?hy78⟩) (by assumption) ?rest78
                    case hy78 => intro w hSw; (try dsimp only at hSw); go_simp; (try with_reducible rfl)
                    (try simp only [Act.put, List.setIfInBounds_toArray, List.set_cons_zero, List.set_cons_succ])
                    refine take_at 3 (v := ?vv79) rfl (by kernel_rfl) (by kernel_rfl) (by kernel_rfl) (fun _ _ _ h => h) (Or.inl ⟨by rfl, ?hy79⟩) (by assumption) ?rest79
                    case hy79 => intro w hSw; (try dsimp only at hSw); go_simp; (try with_reducible rfl)
                    (try simp only [Act.put, List.setIfInBounds_toArray, List.set_cons_zero, List.set_cons_succ])
                    refine take_at 4 (v := ?vv80) rfl (by kernel_rfl) (by kernel_rfl) (by kernel_rfl) (fun _ _ _ h => h) (Or.inl ⟨by rfl, ?hy80⟩) (by assumption) ?rest80
                    case hy80 => intro w hSw; (try dsimp only at hSw); go_simp; (try with_reducible rfl)
                    (try simp only [Act.put, List.setIfInBounds_toArray, List.set_cons_zero, List.set_cons_succ])
                    refine take_at 5 (v := ?vv81) rfl (by kernel_rfl) (by kernel_rfl) (by kernel_rfl) (fun _ _ _ h => h) (Or.inl ⟨by rfl, ?hy81⟩) (by assumption) ?rest81
                    case hy81 => intro w hSw; (try dsimp only at hSw); go_simp; (try with_reducible rfl)
                    (try simp only [Act.put, List.setIfInBounds_toArray, List.set_cons_zero, List.set_cons_succ])
                    refine take_at 6 (v := ?vv82) rfl (by kernel_rfl) (by kernel_rfl) (by kernel_rfl) (fun _ _ _ h => h) (Or.inl ⟨by rfl, ?hy82⟩) (by assumption) ?rest82
                    case hy82 => intro w hSw; (try dsimp only at hSw); go_simp; (try with_reducible rfl)
                    (try simp only [Act.put, List.setIfInBounds_toArray, List.set_cons_zero, List.set_cons_succ])
                    refine take_at 7 (v := ?vv83) rfl (by kernel_rfl) (by kernel_rfl) (by kernel_rfl) (fun _ _ _ h => h) (Or.inl ⟨by rfl, ?hy83⟩) (by assumption) ?rest83
                    case hy83 => intro w hSw; (try dsimp only at hSw); go_simp; (try with_reducible rfl)
                    (try simp only [Act.put, List.setIfInBounds_toArray, List.set_cons_zero, List.set_cons_succ])
                    refine take_at 8 (v := ?vv84) rfl (by kernel_rfl) (by kernel_rfl) (by kernel_rfl) (fun _ _ _ h => h) (Or.inl ⟨by rfl, ?hy84⟩) (by assumption) ?rest84
                    case hy84 => intro w hSw; (try dsimp only at hSw); go_simp; (try with_reducible rfl)
                    (try simp only [Act.put, List.setIfInBounds_toArray, List.set_cons_zero, List.set_cons_succ])
                    refine take_at 9 (v := ?vv85) rfl (by kernel_rfl) (by kernel_rfl) (by kernel_rfl) (fun _ _ _ h => h) (Or.inl ⟨by rfl, ?hy85⟩) (by assumption) ?rest85
                    case hy85 => intro w hSw; (try dsimp only at hSw); go_simp; (try with_reducible rfl)
                    (try simp only [Act.put, List.setIfInBounds_toArray, List.set_cons_zero, List.set_cons_succ])
                    refine take_at 10 (v := undef) rfl (by kernel_rfl) (by kernel_rfl) (by kernel_rfl) (fun _ _ _ h => h) (Or.inr ⟨by rfl, rfl⟩) (by assumption) ?_
                    (try simp only [Act.put, List.setIfInBounds_toArray, List.set_cons_zero, List.set_cons_succ])
                    refine take_at 11 (v := undef) rfl (by kernel_rfl) (by kernel_rfl) (by kernel_rfl) (fun _ _ _ h => h) (Or.inr ⟨by rfl, rfl⟩) (by assumption) ?_
                    (try simp only [Act.put, List.setIfInBounds_toArray, List.set_cons_zero, List.set_cons_succ])
                    refine take_at 12 (v := undef) rfl (by kernel_rfl) (by kernel_rfl) (by kernel_rfl) (fun _ _ _ h => h) (Or.inr ⟨by rfl, rfl⟩) (by assumption) ?_
                    (try simp only [Act.put, List.setIfInBounds_toArray, List.set_cons_zero, List.set_cons_succ])
                    refine take_at 13 (v := undef) rfl (by kernel_rfl) (by kernel_rfl) (by kernel_rfl) (fun _ _ _ h => h) (Or.inr ⟨by rfl, rfl⟩) (by assumption) ?_
                    (try simp only [Act.put, List.setIfInBounds_toArray, List.set_cons_zero, List.set_cons_succ])
                    refine take_at 14 (v := ?vv90) rfl (by kernel_rfl) (by kernel_rfl) (by kernel_rfl) (fun _ _ _ h => h) (Or.inl ⟨by rfl, ?hy90⟩) (by assumption) ?rest90
                    case hy90 => intro w hSw; (try dsimp only at hSw); go_simp; (try with_reducible rfl)
                    (try simp only [Act.put, List.setIfInBounds_toArray, List.set_cons_zero, List.set_cons_succ])
                    refine ready_at 15 rfl (by kernel_rfl) (fun K hK => ?_)
                    rw [if_pos (by rfl)]
                    rw [HMC.out]
                    refine wp_store_row 41 _ _ rfl w.heap.size _ rfl rfl 41 _ HDRW.out (Rf.sizeOf X HXD.out) (Rf.sizes rf0 X rfl HXD.out) (Rf.one X) ?_
                    generalize hwZ : World.setRow _ _ _ = wZ
                    have HZ : Hid (Fm wZ w.heap.size X) := Lib.hid (by rw [← hwZ]; exact HDRW.out.row)
                    have HZB : Hid (Below w.heap.size w wZ) := Lib.hid (by rw [← hwZ]; exact below_setRow8 HBD.out _ _ (Nat.le_refl _))
                    have HZ4 : Hid (Fm wZ g4 X) := Lib.hid (HDR4.out.keep (rkeep_row hwZ _ (Nat.ne_of_gt HLT.out)))
                    clear hwZ
                    refine hK.out _ _ ?hS91 (fun hHeld => ?rest91)
                    case hS91 => exact And.intro (HSS.out _ HZ4.out) (HSC.out _ HZ4.out)
                    clear hK K
                    (try simp only [Act.put, List.setIfInBounds_toArray, List.set_cons_zero, List.set_cons_succ])
                    refine take_at 16 (v := ?vv92) rfl (by kernel_rfl) (by kernel_rfl) (by kernel_rfl) (fun _ _ _ h => h) (Or.inl ⟨by rfl, ?hy92⟩) (by assumption) ?rest92
                    case hy92 => intro w hSw; (try dsimp only at hSw); go_simp; (try with_reducible rfl)
                    (try simp only [Act.put, List.setIfInBounds_toArray, List.set_cons_zero, List.set_cons_succ])
                    refine wpAnyH_done (by kernel_rfl) ?_ _
                    go_wp2
                    refine bodyPost_ret (HZ.out.res2 HXD.out rfl _ rfl) rfl ?_
                    exact LnQ.of X false HXO.out (fun h => by cases h) (fun _ => HNO.out) HZB.out rfl
                · have e0 : decide (0 ≤ z) = false := decide_eq_false hz0
                  have HNO : Hid (rdL cs = none) := Lib.hid (by rw [HQ.out, if_neg (fun hh => hz0 hh.1)])
                  clear hX hLX
                  have HDRW : Hid (Fm wr.drew w.heap.size rf0) := Lib.hid (H25.out.later (Below.refl _ _).drew)
                  have HDR4 : Hid (Fm wr.drew g4 X) := Lib.hid (H45.out.later (Below.refl _ _).drew)
                  have HBD : Hid (Below w.heap.size w wr.drew) := Lib.hid HB5.out.drew
                  refine wp_region_held_drew (S := (fun W => W.rangeAt g4 0 LX ∧ W.cell? ⟨g4, 33, none⟩ = some (.int .i64 z))) (by kernel_rfl) (And.intro (HSS.out _ (H45.out.later (Below.refl _ _).drew)) (HSC.out _ (H45.out.later (Below.refl _ _).drew))) (fun hHeld => ?_)
                  refine take_at 0 rfl (by kernel_rfl) (by kernel_rfl) (by kernel_rfl) (fun _ _ _ h => h) (yieldsIf_load_mid (by rfl) _ _ rfl _ _ rfl _ _ (fun _ h => h.1) Tryd.underlying41 rfl HLZ.out) (by assumption) ?_
                  (try simp only [Act.put, List.setIfInBounds_toArray, List.set_cons_zero, List.set_cons_succ])
                  refine take_at 1 (v := ?vv94) rfl (by kernel_rfl) (by kernel_rfl) (by kernel_rfl) (fun _ _ _ h => h) (Or.inl ⟨by rfl, ?hy94⟩) (by assumption) ?rest94
                  case hy94 => intro w hSw; (try dsimp only at hSw); go_simp; (try with_reducible rfl)
                  (try simp only [Act.put, List.setIfInBounds_toArray, List.set_cons_zero, List.set_cons_succ])
                  refine take_at 2 (v := ?vv95) rfl (by kernel_rfl) (by kernel_rfl) (by kernel_rfl) (fun _ _ _ h => h) (Or.inl ⟨by rfl, ?hy95⟩) (by assumption) ?rest95
                  case hy95 => intro w hSw; (try dsimp only at hSw); go_simp; (try with_reducible rfl)
                  (try simp only [Act.put, List.setIfInBounds_toArray, List.set_cons_zero, List.set_cons_succ])
                  refine take_at 3 (v := ?vv96) rfl (by kernel_rfl) (by kernel_rfl) (by kernel_rfl) (fun _ _ _ h => h) (Or.inl ⟨by rfl, ?hy96⟩) (by assumption) ?rest96
                  case hy96 => intro w hSw; (try dsimp only at hSw); go_simp; (try with_reducible rfl)
                  (try simp only [Act.put, List.setIfInBounds_toArray, List.set_cons_zero, List.set_cons_succ])
                  refine take_at 4 (v := ?vv97) rfl (by kernel_rfl) (by kernel_rfl) (by kernel_rfl) (fun _ _ _ h => h) (Or.inl ⟨by rfl, ?hy97⟩) (by assumption) ?rest97
                  case hy97 => intro w hSw; (try dsimp only at hSw); go_simp; (try with_reducible rfl)
                  (try simp only [Act.put, List.setIfInBounds_toArray, List.set_cons_zero, List.set_cons_succ])
                  refine take_at 5 (v := undef) rfl (by kernel_rfl) (by kernel_rfl) (by kernel_rfl) (fun _ _ _ h => h) (Or.inr ⟨by rfl, rfl⟩) (by assumption) ?_
                  (try simp only [Act.put, List.setIfInBounds_toArray, List.set_cons_zero, List.set_cons_succ])
                  refine take_at 6 (v := undef) rfl (by kernel_rfl) (by kernel_rfl) (by kernel_rfl) (fun _ _ _ h => h) (Or.inr ⟨by rfl, rfl⟩) (by assumption) ?_
                  (try simp only [Act.put, List.setIfInBounds_toArray, List.set_cons_zero, List.set_cons_succ])
                  refine take_at 7 (v := undef) rfl (by kernel_rfl) (by kernel_rfl) (by kernel_rfl) (fun _ _ _ h => h) (Or.inr ⟨by rfl, rfl⟩) (by assumption) ?_
                  (try simp only [Act.put, List.setIfInBounds_toArray, List.set_cons_zero, List.set_cons_succ])
                  refine take_at 8 (v := ?vv101) rfl (by kernel_rfl) (by kernel_rfl) (by kernel_rfl) (fun _ _ _ h => h) (Or.inl ⟨by rfl, ?hy101⟩) (by assumption) ?rest101
                  case hy101 => intro w hSw; (try dsimp only at hSw); go_simp; (try with_reducible rfl)
                  (try simp only [Act.put, List.setIfInBounds_toArray, List.set_cons_zero, List.set_cons_succ])
                  refine take_at 9 (v := ?vv102) rfl (by kernel_rfl) (by kernel_rfl) (by kernel_rfl) (fun _ _ _ h => h) (Or.inl ⟨by rfl, ?hy102⟩) (by assumption) ?rest102
                  case hy102 => intro w hSw; (try dsimp only at hSw); go_simp; (try with_reducible rfl)
                  (try simp only [Act.put, List.setIfInBounds_toArray, List.set_cons_zero, List.set_cons_succ])
                  refine take_at 10 (v := undef) rfl (by kernel_rfl) (by kernel_rfl) (by kernel_rfl) (fun _ _ _ h => h) (Or.inr ⟨by rfl, rfl⟩) (by assumption) ?_
                  (try simp only [Act.put, List.setIfInBounds_toArray, List.set_cons_zero, List.set_cons_succ])
                  refine take_at 11 (v := undef) rfl (by kernel_rfl) (by kernel_rfl) (by kernel_rfl) (fun _ _ _ h => h) (Or.inr ⟨by rfl, rfl⟩) (by assumption) ?_
                  (try simp only [Act.put, List.setIfInBounds_toArray, List.set_cons_zero, List.set_cons_succ])
                  refine take_at 12 (v := undef) rfl (by kernel_rfl) (by kernel_rfl) (by kernel_rfl) (fun _ _ _ h => h) (Or.inr ⟨by rfl, rfl⟩) (by assumption) ?_
                  (try simp only [Act.put, List.setIfInBounds_toArray, List.set_cons_zero, List.set_cons_succ])
                  refine take_at 13 (v := undef) rfl (by kernel_rfl) (by kernel_rfl) (by kernel_rfl) (fun _ _ _ h => h) (Or.inr ⟨by rfl, rfl⟩) (by assumption) ?_
                  (try simp only [Act.put, List.setIfInBounds_toArray, List.set_cons_zero, List.set_cons_succ])
                  refine take_at 14 (v := ?vv107) rfl (by kernel_rfl) (by kernel_rfl) (by kernel_rfl) (fun _ _ _ h => h) (Or.inl ⟨by rfl, ?hy107⟩) (by assumption) ?rest107
                  case hy107 => intro w hSw; (try dsimp only at hSw); go_simp; (try with_reducible rfl)
                  (try simp only [Act.put, List.setIfInBounds_toArray, List.set_cons_zero, List.set_cons_succ])
                  refine ready_at 15 rfl (by kernel_rfl) (fun K hK => ?_)
                  rw [if_pos (by rfl)]
                  rw [HMC.out]
                  refine wp_store_row 41 _ _ rfl w.heap.size _ rfl rfl 41 _ HDRW.out (Rf.sizeOf X HXD.out) (Rf.sizes rf0 X rfl HXD.out) (Rf.one X) ?_
                  generalize hwZ : World.setRow _ _ _ = wZ
                  have HZ : Hid (Fm wZ w.heap.size X) := Lib.hid (by rw [← hwZ]; exact HDRW.out.row)
                  have HZB : Hid (Below w.heap.size w wZ) := Lib.hid (by rw [← hwZ]; exact below_setRow8 HBD.out _ _ (Nat.le_refl _))
                  have HZ4 : Hid (Fm wZ g4 X) := Lib.hid (HDR4.out.keep (rkeep_row hwZ _ (Nat.ne_of_gt HLT.out)))
                  clear hwZ
                  refine hK.out _ _ ?hS108 (fun hHeld => ?rest108)
                  case hS108 => exact And.intro (HSS.out _ HZ4.out) (HSC.out _ HZ4.out)
                  clear hK K
                  (try simp only [Act.put, List.setIfInBounds_toArray, List.set_cons_zero, List.set_cons_succ])
                  refine take_at 16 (v := ?vv109) rfl (by kernel_rfl) (by kernel_rfl) (by kernel_rfl) (fun _ _ _ h => h) (Or.inl ⟨by rfl, ?hy109⟩) (by assumption) ?rest109
                  case hy109 => intro w hSw; (try dsimp only at hSw); go_simp; (try with_reducible rfl)
                  (try simp only [Act.put, List.setIfInBounds_toArray, List.set_cons_zero, List.set_cons_succ])
                  refine wpAnyH_done (by kernel_rfl) ?_ _
                  go_wp2
                  refine bodyPost_ret (HZ.out.res2 HXD.out rfl _ rfl) rfl ?_
                  exact LnQ.of X false HXO.out (fun h => by cases h) (fun _ => HNO.out) HZB.out rfl
    · have h9' : ¬ (9 : Int) ≤ (s.size : Int) := by omega
      have d9 : decide ((9 : Int) ≤ (s.size : Int)) = false := decide_eq_false h9'
      clear hman
      rw [if_pos (by rw [HLN.out]; omega)] at HQ
      have hl : (s.size : Int) < 76 := by omega
      have dl : decide ((s.size : Int) < 76) = true := decide_eq_true hl
      clear h9 hl
      go_enter Tryd.func21, Tryd.ntmps21
      go_wp2_with (first
        | (refine wpList_ld rfl 41 _ rfl _ rfl _ (H4.out.load rfl) ?_)
        | (refine wpList_store_row rfl 41 _ _ rfl w.heap.size _ rfl rfl 41 _ H2.out (Rf.sizeOf rf0 rfl) (Rf.sizes rf0 rf0 rfl rfl) (Rf.one rf0) ?_; generalize hwZ : World.setRow _ _ _ = wZ))
      have HZ : Hid (Fm wZ w.heap.size rf0) := Lib.hid (by rw [← hwZ]; exact H2.out.row)
      have HZB : Hid (Below w.heap.size w wZ) := Lib.hid (by rw [← hwZ]; exact below_setRow8 HB.out _ _ (Nat.le_refl _))
      clear hwZ
      (try simp only [Exit.inBlock, Exit.then])
      refine bodyPost_ret (HZ.out.res2 rfl rfl _ rfl) rfl ?_
      exact LnQ.of rf0 false (rf_ok _ dok_zero (by decide)) (fun h => by cases h) (fun _ => HQ.out) HZB.out rfl
end Go.Proofs.YtahjofjblhpndaaDoor

namespace Go.Proofs.YtahjofjblhpndaaDoor
set_option linter.unusedVariables false
open Go.RowKit Go.Lib

theorem strOf_firstL : strOfNums firstL = ⟨#[115, 116, 105, 108, 108, 97, 103, 101, 32, 49]⟩ := by decide
theorem drop_split {zs : List Int} {fr i : Nat} (h1 : fr ≤ i) (h2 : i < zs.length) : zs.drop fr = (zs.drop fr).take (i - fr) ++ zs.getD i 0 :: zs.drop (i + 1) := by
  conv => lhs; rw [← List.take_append_drop (i - fr) (zs.drop fr)]
  rw [List.drop_drop, show fr + (i - fr) = i by omega, List.drop_eq_getElem_cons h2, List.getD_eq_getElem?_getD, List.getElem?_eq_getElem h2]
  rfl
theorem take_more {zs : List Int} {fr i : Nat} (h1 : fr ≤ i) (h2 : i < zs.length) : (zs.drop fr).take (i + 1 - fr) = (zs.drop fr).take (i - fr) ++ [zs.getD i 0] := by
  have h3 : i - fr < (zs.drop fr).length := by rw [List.length_drop]; omega
  rw [show i + 1 - fr = (i - fr) + 1 by omega, List.take_succ_eq_append_getElem h3, List.getElem_drop, List.getD_eq_getElem?_getD, List.getElem?_eq_getElem h2]
  congr 2
  simp only [show fr + (i - fr) = i by omega]
  rfl
set_option maxRecDepth 100000 in
set_option maxHeartbeats 2000000 in
theorem rread17_any (p : Option Addr) (len cap : Nat) (zs : List Int) (w : World) (h : Bs w p len zs) (hpc : p = none → cap = 0) (hlc : len ≤ cap) (hcm : cap ≤ maxLen) (hlen : len ≤ 1048576) :
    Calls Tryd.prog 11 #[.slice p len cap] w fun e w' => RdQ w zs e w' := by
  have HZ := Lib.hid h
  have HLN := Lib.hid h.len
  have HBM : Hid (∀ x ∈ zs, 0 ≤ x ∧ x < 256) := Lib.hid (byt_mem h.byte)
  have HLI := Lib.hid fun s W hs => rline_read17 s W hs
  have HAG := Lib.hid fun (q : Option Addr) (n c : Nat) (L : List Fx) (i : Nat) (x : Fx) W hg hk hi hx hn => ragain17_any q n c L i x W hg hk hi hx hn
  have HLC := Lib.hid (And.intro hpc hlc)
  have HS0 : Hid (rdF zs = rdR (zs.drop 0) (decide (1 ≤ 0)) (rfL [])) := Lib.hid rfl
  clear h hpc hlc hcm
  go_enter Tryd.func11, Tryd.ntmps11
  go_wp2
  go_loopw [4, 5, 6, 7] (fun ov fv nv iv wr => ∃ (i fr n : Nat) (L : List Fx), fr ≤ i ∧ i ≤ len ∧ n ≤ i ∧ L.length ≤ 64 ∧ fv = .int .i64 (fr : Int) ∧ nv = .int .i64 (n : Int) ∧ iv = .int .i64 (i : Int) ∧ Hid (Gw encRf wr w.heap.size ov L) ∧ Hid (∀ x ∈ L, x.1.Ok) ∧ Hid ((10 : Int) ∉ (zs.drop fr).take (i - fr)) ∧ Hid (rdF zs = rdR (zs.drop fr) (decide (1 ≤ n)) (rfL L)) ∧ Hid (n = 0 → L = []) ∧ Hid (Below w.heap.size w wr)) (fun _ _ _ iv _ => len - (intOf iv).toNat)
  case atStart => exact ⟨0, 0, 0, [], Nat.le_refl _, Nat.zero_le _, Nat.le_refl _, Nat.zero_le _, rfl, rfl, rfl, Lib.hid (Gw.nil _ _ _), Lib.hid (fun x hx => by cases hx), Lib.hid (by simp), HS0, Lib.hid (fun _ => rfl), Lib.hid (Below.refl _ _)⟩
  case round =>
    obtain ⟨i, fr, n, L, hfi, hil, hni, hL, rfl, rfl, rfl, HG, HK, HNL, HS, HN0, HB⟩ := hrel
    obtain ⟨oq, oc, hov, hlc2, hcm2, hgs2, hpc2⟩ := HG.out.open
    subst hov
    have HO2 := Lib.hid (And.intro hlc2 (And.intro hcm2 hpc2))
    obtain ⟨m, hm⟩ : ∃ m, L.length = m := ⟨_, rfl⟩
    rw [hm] at HG HO2 hL ⊢
    have HM := Lib.hid hm
    clear hlc2 hcm2 hpc2 hgs2 hm
    by_cases hlt : i < len
    · have hzw := HZ.out.later HB.out
      obtain ⟨b, off, rfl, hc⟩ : ∃ b off, p = some ⟨b, off, none⟩ ∧ wr.cell? ⟨b, off + i, none⟩ = some (.int .u8 (zs.getD i 0)) := by
        rcases hzw.2.2 with h0 | ⟨b, off, hp, hc⟩
        · omega
        · exact ⟨b, off, hp, hc i hlt⟩
      have hii : (i : Int) < (len : Int) := by omega
      have hi0 : (0 : Int) ≤ (i : Int) := by omega
      have d1 : decide ((i : Int) < (len : Int)) = true := decide_eq_true hii
      have HTM := Lib.hid (take_more (zs := zs) hfi (by rw [HLN.out]; exact hlt))
      have HSP := Lib.hid (drop_split (zs := zs) hfi (by rw [HLN.out]; exact hlt))
      obtain ⟨y, hy⟩ : ∃ y, zs.getD i 0 = y := ⟨_, rfl⟩
      rw [hy] at hc HTM HSP
      have hyb : 0 ≤ y ∧ y < 256 := by
        rw [← hy]
        exact hzw.byte i
      clear hy
      by_cases h10 : y = 10
      · have dy : (y != 10) = false := by simpa using h10
        rw [h10] at HSP
        obtain ⟨a, ha⟩ : ∃ a, (zs.drop fr).take (i - fr) = a := ⟨_, rfl⟩
        have HAB : Hid (∀ j, 0 ≤ a.getD j 0 ∧ a.getD j 0 < 256) := Lib.hid (by rw [← ha]; exact byt_fin fun x hx => HBM.out x (List.mem_of_mem_drop (List.mem_of_mem_take hx)))
        obtain ⟨p', hsl, hbs', _⟩ := hzw.slice_lh (P := Tryd.prog) 23 5 Tryd.underlying23 (fun _ => by kernel_rfl) cap fr i HLC.out.2 hfi (by omega)
        rw [ha] at hbs' HSP HNL
        have hcv := hbs'.run_string (P := Tryd.prog) 23 5 9 Tryd.underlying23 Tryd.underlying5 Tryd.underlying9 (cap - fr)
        have HTA : Hid (numsOf (strOfNums a) = a) := Lib.hid (numsOf_strOfNums HAB.out)
        have HTS : Hid ((strOfNums a).size ≤ 1048576) := Lib.hid (by rw [strOf_size, hbs'.len]; omega)
        rw [HSP.out, rdR_step _ HNL.out] at HS
        obtain ⟨T, hT⟩ : ∃ t, strOfNums a = t := ⟨_, rfl⟩
        rw [hT] at hcv HTA HTS
        obtain ⟨ln, hln⟩ : ∃ d : Nat, i - fr = d := ⟨_, rfl⟩
        obtain ⟨lc, hlcc⟩ : ∃ d : Nat, cap - fr = d := ⟨_, rfl⟩
        rw [hln, hlcc] at hsl
        rw [hln, hlcc] at hcv
        have hfil : ((fr : Nat) : Int) ≤ (i : Int) := by omega
        have HIL := Lib.hid (And.intro hfi (And.intro hlt hni))
        clear hzw hbs' HTM hyb h10 ha hT hln hlcc HAB
        by_cases h0 : n = 0
        · have hLe : L = [] := HN0.out h0
          subst h0
          have dn : ((0 : Int) + 1 == 1) = true := rfl
          rw [if_pos (by decide)] at HS
          by_cases hf : a = firstL
          · have ht : (!T.toList == [115, 116, 105, 108, 108, 97, 103, 101, 32, 49]) = false := by
              rw [text_test _ _ firstL rfl, HTA.out, decide_eq_true hf]; rfl
            rw [if_pos hf] at HS
            clear hf
            go_wp2
            refine ⟨⟨i + 1, i + 1, 1, L, by omega, by omega, by omega, by rw [HM.out]; exact hL, by go_num, by go_num, by go_num, HG, HK, Lib.hid (by simp), Lib.hid (by rw [HS.out, hLe]; rfl), Lib.hid (fun h => by cases h), HB⟩, by simp [intOf] <;> omega⟩
          · have ht : (!T.toList == [115, 116, 105, 108, 108, 97, 103, 101, 32, 49]) = true := by
              rw [text_test _ _ firstL rfl, HTA.out, decide_eq_false hf]; rfl
            rw [if_neg hf] at HS
            clear hf
            go_wp2
            (try simp only [Exit.inBlock, Exit.then])
            go_ret2
            exact RdQ.of HS.out none 0 0 [] (Gs.empty _ _ _) rfl (Nat.le_refl _) (Nat.zero_le _) (fun _ => rfl) HB.out rfl
        · have hst : decide (1 ≤ n) = true := decide_eq_true (by omega)
          rw [hst, if_neg (by decide)] at HS
          have hn1 : ¬ (n : Int) + 1 = 1 := by omega
          have dn : (((n : Int) + 1) == 1) = false := by simpa using hn1
          have hwn : wrap64 ((n : Int) + 1) = (n : Int) + 1 := by unfold wrap64; omega
          have HRE := Lib.hid fun W => HLI.out T W HTS.out
          rw [HTA.out] at HRE
          unfold LnQ at HRE
          have HN1 := Lib.hid h0
          clear h0 hst
          go_upto_region 14 with (first
            | (go_at_call 21; refine (HRE.out _).mono ?_; rintro e w1 ⟨x, ok, rfl, hxo, hy1, hn1, hb1⟩; have HXO := Lib.hid hxo; have HY1 := Lib.hid hy1; have HN0b := Lib.hid hn1; have HB1 := Lib.hid hb1; clear hxo hy1 hn1 hb1)
            | (refine wpList_store_row rfl 41 _ _ rfl w1.heap.size _ rfl rfl 41 _ (heap_alloc_new _ _) (Rf.sizeOf x HXO.out.dg.1) (Rf.sizes rf0 x rfl HXO.out.dg.1) x.one ?_; generalize hw2 : World.setRow _ _ _ = w2))
          have HLY := Lib.hid (lay_rf hw2)
          have HBr2 := Lib.hid (below_step HB1.out HLY.out.2)
          have HB2 := Lib.hid (below_step HB.out HBr2.out)
          have HG2 := Lib.hid (HG.out.later HBr2.out)
          clear hw2 hc
          cases ok
          · rw [HN0b.out rfl] at HS
            go_wp2
            (try simp only [Exit.inBlock, Exit.then])
            go_ret2
            exact RdQ.of HS.out none 0 0 [] (Gs.empty _ _ _) rfl (Nat.le_refl _) (Nat.zero_le _) (fun _ => rfl) HB2.out rfl
          · rw [HY1.out rfl] at HS
            dsimp only at HS
            rw [rfL_length, HM.out] at HS
            by_cases h64 : m = 64
            · have d64 : ((m : Int) == 64) = true := by simpa using (by omega : (m : Int) = 64)
              rw [if_pos h64] at HS
              clear h64
              go_wp2
              (try simp only [Exit.inBlock, Exit.then])
              go_ret2
              exact RdQ.of HS.out none 0 0 [] (Gs.empty _ _ _) rfl (Nat.le_refl _) (Nat.zero_le _) (fun _ => rfl) HB2.out rfl
            · have h64' : ¬ (m : Int) = 64 := by omega
              have d64 : ((m : Int) == 64) = false := by simpa using h64'
              rw [if_neg h64] at HS
              have HXD := Lib.hid HXO.out.dg.1
              obtain ⟨X, hX⟩ : ∃ X : Fx, X = ⟨x, HXD.out⟩ := ⟨_, rfl⟩
              have hXx : X.1 = x := by rw [hX]
              have HKX : Hid (∀ z ∈ L ++ [X], z.1.Ok) := Lib.hid (fun z hz => by
                rcases List.mem_append.1 hz with h1 | h1
                · exact HK.out z h1
                · rw [List.mem_singleton] at h1
                  subst h1
                  rw [hXx]
                  exact HXO.out)
              have HLD := Lib.hid fun W (hW : Below w2.heap.size w2 W) => (HLY.out.1.later hW).load HXD.out
              have HLX : Hid ((L ++ [X]).length = m + 1) := Lib.hid (by rw [List.length_append, List.length_singleton, HM.out])
              have HXI : Hid ((L ++ [X])[m]? = some X) := Lib.hid (by rw [List.getElem?_append_right (by rw [HM.out]; exact Nat.le_refl _), HM.out, Nat.sub_self]; rfl)
              have HTK : Hid ((rfL (L ++ [X])).take m = rfL L) := Lib.hid (by rw [rfL_append, List.take_left' (by rw [rfL_length, HM.out])])
              have HRL : Hid (rfL (L ++ [X]) = rfL L ++ [x]) := Lib.hid (by rw [rfL_append]; show _ ++ [X.1] = _; rw [hXx])
              obtain ⟨tb, htb⟩ : ∃ b, twice (rfL L) x = b := ⟨_, rfl⟩
              rw [htb] at HS
              have HTB := Lib.hid htb
              have HM64 : Hid (m + 1 ≤ 64) := Lib.hid (by omega)
              rw [← hXx] at HLD
              have HBR : Hid (Below w2.heap.size w2 w2) := Lib.hid (Below.refl _ _)
              have hmm2 : ((m + 1 : Nat) : Int) - 1 = (m : Int) := by omega
              have HXX := Lib.hid hXx
              clear h64 hX htb hXx
              have HAX := Lib.hid fun q c W (hg : Gs encRf W q (m + 1) (L ++ [X])) => HAG.out q (m + 1) c (L ++ [X]) m X W hg HKX.out (Nat.lt_succ_self _) HXI.out (by have := HM64.out; omega)
              rw [HTK.out, HXX.out, HTB.out] at HAX
              obtain ⟨mm, hmn⟩ : ∃ k, m + 1 = k := ⟨_, rfl⟩
              rw [hmn] at hmm2 HLX HAX HM64
              cases tb
              · go_wp2_with (first
                  | (refine wpList_ld rfl 41 _ rfl _ rfl _ (HLD.out _ HBR.out) ?_)
                  | (refine wpList_build_rf rfl _ _ rfl Tryd.underlying22 X rfl ?_; have HN4 := Lib.hid (Gs.oneRf w2 X); generalize hw4 : World.alloc w2 _ = w4 at *; have HB24 : Hid (Below w2.heap.size w2 w4) := Lib.hid (by rw [← hw4]; exact (Below.refl _ _).alloc (Nat.le_refl _) _); have HG4 := Lib.hid (HG2.out.later HB24.out); have HB4 := Lib.hid (below_step HB2.out HB24.out); clear hw4)
                  | (refine wpList_append_gen encRf rfl _ _ 22 rfl Tryd.underlying22 rfzero 48 infoRf rfzero_size (by decide) w.heap.size _ L rfl HG4.out _ 1 1 [X] rfl HN4.out (fun h => by cases h) (by rw [HM.out]; have := HM64.out; omega) HB4.out.size ?_; intro v5 w5 ho5 hg5; have HB5 := Lib.hid (below_new_gw HB4.out HG4.out hg5 HB4.out.size); obtain ⟨q5, c5, hv5, a1, a2, a3, a4⟩ := ho5.open; rw [HLX.out] at hv5; subst hv5; have HG5 := Lib.hid ho5; clear ho5 hg5 a1 a2 a4; have HGS5 : Hid (Gs encRf w5 q5 mm (L ++ [X])) := Lib.hid HG5.out.gs; clear a3)
                  | (go_at_call 16; refine (HAX.out _ _ _ HGS5.out).mono ?_; rintro e w6 ⟨rfl, hb6⟩; have HB6 := Lib.hid (below_step HB5.out hb6); have HG6 := Lib.hid (HG5.out.later hb6); clear hb6))
                refine ⟨⟨i + 1, i + 1, n + 1, L ++ [X], by omega, by omega, by omega, by rw [HLX.out]; exact HM64.out, by go_num, by go_num, by go_num, HG6, HKX, Lib.hid (by simp), Lib.hid (by rw [HS.out, HRL.out]; rfl), Lib.hid (fun h => by cases h), HB6⟩, by simp [intOf] <;> omega⟩
              · go_wp2_with (first
                  | (refine wpList_ld rfl 41 _ rfl _ rfl _ (HLD.out _ HBR.out) ?_)
                  | (refine wpList_build_rf rfl _ _ rfl Tryd.underlying22 X rfl ?_; have HN4 := Lib.hid (Gs.oneRf w2 X); generalize hw4 : World.alloc w2 _ = w4 at *; have HB24 : Hid (Below w2.heap.size w2 w4) := Lib.hid (by rw [← hw4]; exact (Below.refl _ _).alloc (Nat.le_refl _) _); have HG4 := Lib.hid (HG2.out.later HB24.out); have HB4 := Lib.hid (below_step HB2.out HB24.out); clear hw4)
                  | (refine wpList_append_gen encRf rfl _ _ 22 rfl Tryd.underlying22 rfzero 48 infoRf rfzero_size (by decide) w.heap.size _ L rfl HG4.out _ 1 1 [X] rfl HN4.out (fun h => by cases h) (by rw [HM.out]; have := HM64.out; omega) HB4.out.size ?_; intro v5 w5 ho5 hg5; have HB5 := Lib.hid (below_new_gw HB4.out HG4.out hg5 HB4.out.size); obtain ⟨q5, c5, hv5, a1, a2, a3, a4⟩ := ho5.open; rw [HLX.out] at hv5; subst hv5; have HG5 := Lib.hid ho5; clear ho5 hg5 a1 a2 a4; have HGS5 : Hid (Gs encRf w5 q5 mm (L ++ [X])) := Lib.hid HG5.out.gs; clear a3)
                  | (go_at_call 16; refine (HAX.out _ _ _ HGS5.out).mono ?_; rintro e w6 ⟨rfl, hb6⟩; have HB6 := Lib.hid (below_step HB5.out hb6); clear hb6))
                (try simp only [Exit.inBlock, Exit.then])
                go_ret2
                exact RdQ.of HS.out none 0 0 [] (Gs.empty _ _ _) rfl (Nat.le_refl _) (Nat.zero_le _) (fun _ => rfl) HB6.out rfl
      · have dy : (y != 10) = true := by simpa using h10
        have HNL2 : Hid ((10 : Int) ∉ (zs.drop fr).take (i + 1 - fr)) := Lib.hid (by
          rw [HTM.out]
          intro h1
          rcases List.mem_append.1 h1 with h2 | h2
          · exact HNL.out h2
          · rw [List.mem_singleton] at h2
            exact h10 h2.symm)
        clear hzw h10 HTM HSP
        go_wp2
        refine ⟨⟨i + 1, fr, n, L, by omega, by omega, by omega, by rw [HM.out]; exact hL, rfl, rfl, by go_num, HG, HK, HNL2, HS, HN0, HB⟩, by simp [intOf] <;> omega⟩
    · obtain rfl : i = len := by omega
      have d1 : decide ((i : Int) < (i : Int)) = false := decide_eq_false (by omega)
      have HALL : Hid ((zs.drop fr).take (i - fr) = zs.drop fr) := Lib.hid (List.take_of_length_le (by rw [List.length_drop, HLN.out]; exact Nat.le_refl _))
      rw [HALL.out] at HNL
      rw [rdR_none HNL.out] at HS
      by_cases h0 : n = 0
      · have dn : ((n : Int) == 0) = true := by simpa using (by omega : (n : Int) = 0)
        rw [if_neg (by rw [h0]; simp)] at HS
        clear h0
        go_wp2
        go_ret2
        exact RdQ.of HS.out none 0 0 [] (Gs.empty _ _ _) rfl (Nat.le_refl _) (Nat.zero_le _) (fun _ => rfl) HB.out rfl
      · have hn0' : ¬ (n : Int) = 0 := by omega
        have dn : ((n : Int) == 0) = false := by simpa using hn0'
        have hst : decide (1 ≤ n) = true := decide_eq_true (by omega)
        by_cases hf : fr < i
        · have d2 : decide ((fr : Int) < (i : Int)) = true := decide_eq_true (by omega)
          have hf2 : (fr : Int) < (i : Int) := by omega
          rw [if_neg (by
            rintro ⟨_, h2⟩
            have h3 := congrArg List.length h2
            rw [List.length_drop, HLN.out] at h3
            simp at h3
            omega)] at HS
          clear hf
          go_wp2
          go_ret2
          exact RdQ.of HS.out none 0 0 [] (Gs.empty _ _ _) rfl (Nat.le_refl _) (Nat.zero_le _) (fun _ => rfl) HB.out rfl
        · have hf2 : ¬ (fr : Int) < (i : Int) := by omega
          have d2 : decide ((fr : Int) < (i : Int)) = false := decide_eq_false hf2
          rw [if_pos ⟨hst, List.drop_of_length_le (by rw [HLN.out]; omega)⟩] at HS
          clear hf hst
          go_wp2
          go_ret2
          exact RdQ.of HS.out oq m oc L HG.out.gs rfl HO2.out.1 HO2.out.2.1 HO2.out.2.2 HB.out rfl
end Go.Proofs.YtahjofjblhpndaaDoor

namespace Go.Proofs.YtahjofjblhpndaaDoor
set_option linter.unusedVariables false
open Go.RowKit Go.Lib

set_option maxRecDepth 100000 in
set_option maxHeartbeats 2000000 in
theorem mantexts_any {K : World → Prop} (hL : Lasts K) (hT : cmTextOk K) (hR : cmReadOk K) (p : Option Addr) (n c : Nat) (L : List Fx) (w : World) (h : Gs encRf w p n L) (hpc : p = none → c = 0) (hnc : n ≤ c) (hk : ∀ x ∈ L, x.1.Ok) (hn : n ≤ 1048576) (hK : K w) :
    Calls Tryd.prog 3 #[.slice p n c] w fun e w' => e = .returned (.bool true) ∧ Below w.heap.size w w' := by
  have HT := Lib.hid (hT p n c L w h hpc hnc hk hn hK)
  have HR := Lib.hid fun W (hW : Below w.heap.size w W) => rtext17_any p n c L W (h.later hW) hpc hk hn
  have HLV := Lib.hid fun W (hW : Below w.heap.size w W) => lives17_any hL hT hR W (hL _ _ hK hW)
  unfold TxQ at HT HR
  generalize tB (rfL L) = B at *
  generalize tE (rfL L) = E at *
  clear h hpc hk
  go_enter Tryd.func3, Tryd.ntmps3
  go_upto_region 2 with (go_at_call 6; refine HT.out.mono ?_; rintro e w1 ⟨q1, m1, c1, rfl, hb1, hmc1, hcm1, hpc1, hw1⟩; have HB1 := Lib.hid hb1; have HC1 := Lib.hid (Nat.le_trans hmc1 hcm1); have HW1 := Lib.hid hw1; clear hb1 hmc1 hcm1 hpc1 hw1)
  go_upto_region 3 with (go_at_call 7; refine (HR.out _ HW1.out).mono ?_; rintro e w2 ⟨q2, m2, c2, rfl, hb2, hmc2, hcm2, hpc2, hw2⟩; have HB2 := Lib.hid hb2; have HB12 := Lib.hid (HB1.out.later hw2); have HW2 := Lib.hid (below_step HW1.out hw2); clear hb2 hmc2 hcm2 hpc2 hw2)
  have hm : m2 = m1 := by rw [← HB2.out.len, ← HB1.out.len]
  subst hm
  have hEE : (E == E) = true := by simp
  go_wp2_with (first
    | (go_at_call 8; refine (same_any _ _ _ _ _ _ B B _ HC1.out HC1.out HB12.out HB2.out).mono ?_; rintro e w4 ⟨rfl, q, hq⟩; rw [decide_eq_true (rfl : B = B)]; have HB4 : Hid (Below w.heap.size w w4) := Lib.hid (by rw [hq]; exact below_drewN HW2.out _); clear hq)
    | (go_at_call 9; refine (HLV.out _ HB4.out).mono ?_; rintro e w7 ⟨rfl, hb7⟩; have HB7 := Lib.hid (below_step HB4.out hb7); clear hb7))
  go_ret
  exact ⟨rfl, HB7.out⟩
set_option maxRecDepth 100000 in
set_option maxHeartbeats 2000000 in
theorem manreads_any {K : World → Prop} (hL : Lasts K) (hT : cmTextOk K) (hR : cmReadOk K) (p : Option Addr) (len cap : Nat) (zs : List Int) (w : World) (h : Bs w p len zs) (hpc : p = none → cap = 0) (hlc : len ≤ cap) (hcm : cap ≤ maxLen) (hlen : len ≤ 1048576) (hK : K w) :
    Calls Tryd.prog 4 #[.slice p len cap] w fun e w' => e = .returned (.bool true) ∧ Below w.heap.size w w' := by
  have HC := Lib.hid (hR p len cap zs w h hpc hlc hcm hlen hK)
  have HR := Lib.hid fun W (hW : Below w.heap.size w W) => rread17_any p len cap zs W (h.later hW) hpc hlc hcm hlen
  have HLV := Lib.hid fun W (hW : Below w.heap.size w W) => lives17_any hL hT hR W (hL _ _ hK hW)
  have HOK := Lib.hid (rd_ok (zs := zs))
  have H64 : Hid ((rdF zs).l.length ≤ 64) := Lib.hid (by
    by_cases h0 : (rdF zs).err = 0
    · exact (read_text h0).2.2.1
    · rw [show (rdF zs).l = [] from rdGo_no _ _ _ _ h0]
      decide)
  unfold RdQ at HC HR
  generalize rdF zs = F at *
  obtain ⟨l, E⟩ := F
  dsimp only at HC HR HOK H64
  clear h hpc hlc hcm
  go_enter Tryd.func4, Tryd.ntmps4
  go_upto_region 2 with (go_at_call 10; refine HC.out.mono ?_; rintro e w1 ⟨q1, m1, c1, L1, rfl, hg1, hl1, _, _, _, hw1⟩; have HG1 := Lib.hid hg1; have HL1 := Lib.hid hl1; have HW1 := Lib.hid hw1; clear hg1 hl1 hw1)
  go_upto_region 3 with (go_at_call 11; refine (HR.out _ HW1.out).mono ?_; rintro e w2 ⟨q2, m2, c2, L2, rfl, hg2, hl2, _, _, _, hw2⟩; have HG2 := Lib.hid hg2; have HL2 := Lib.hid hl2; have HG12 := Lib.hid (HG1.out.later hw2); have HW2 := Lib.hid (below_step HW1.out hw2); clear hg2 hl2 hw2)
  have hm : m2 = m1 := by rw [← HG2.out.len, ← HG12.out.len, ← rfL_length, ← rfL_length, HL1.out, HL2.out]
  subst hm
  have hEE : (E == E) = true := by simp
  have HS := Lib.hid (rsame17_any q1 q2 m2 c1 c2 L1 L2 w2 HG12.out HG2.out (by rw [HL1.out, HL2.out]) (fun x hx => HOK.out x.1 (by rw [← HL1.out]; exact List.mem_map_of_mem hx)) (by have h1 := H64.out; rw [← HL1.out, rfL_length, HG12.out.len] at h1; omega))
  go_wp2_with (first
    | (go_at_call 12; refine HS.out.mono ?_; rintro e w4 ⟨rfl, hb4⟩; have HB4 := Lib.hid (below_step HW2.out hb4); clear hb4)
    | (go_at_call 9; refine (HLV.out _ HB4.out).mono ?_; rintro e w7 ⟨rfl, hb7⟩; have HB7 := Lib.hid (below_step HB4.out hb7); clear hb7))
  go_ret
  exact ⟨rfl, HB7.out⟩
theorem manreads_walk {K : World → Prop} (hL : Lasts K) (hT : cmTextOk K) (hR : cmReadOk K) (p : Option Addr) (len cap : Nat) (zs : List Int) (w : World) (h : Bs w p len zs) (hpc : p = none → cap = 0) (hlc : len ≤ cap) (hcap : cap ≤ 1048576) (hK : K w) :
    Calls Tryd.prog 4 #[.slice p len cap] w fun e w' => e = .returned (.bool true) ∧ Below w.heap.size w w' :=
  manreads_any hL hT hR p len cap zs w h hpc hlc (by unfold maxLen; omega) (by omega) hK
end Go.Proofs.YtahjofjblhpndaaDoor

namespace Go.Proofs.YtahjofjblhpndaaDoor
set_option linter.unusedVariables false
open Go.RowKit Go.Lib

theorem txtN_length {l : List Rf} (hd : ∀ r ∈ l, dok r.dg) (hz : ∀ r ∈ l, sizeOk r = true) : (txtN l).length ≤ 11 + l.length * 87 := by
  have h : ∀ l : List Rf, (∀ r ∈ l, dok r.dg) → (∀ r ∈ l, sizeOk r = true) → (bodyN l).length ≤ l.length * 87 := fun l => by
    induction l with
    | nil => intro _ _; exact Nat.le_refl _
    | cons r l ih =>
      intro h1 h2
      have h3 := ih (fun x hx => h1 x (List.mem_cons_of_mem _ hx)) (fun x hx => h2 x (List.mem_cons_of_mem _ hx))
      have h4 := lineN_length (h1 r (List.mem_cons_self ..)) (h2 r (List.mem_cons_self ..))
      rw [bodyN_cons, List.length_append, List.length_cons, List.length_cons]
      omega
  have h1 := h l hd hz
  unfold txtN
  rw [List.length_append, List.length_cons]
  show 10 + _ ≤ _
  omega
theorem tGo_sizes : ∀ (l pre : List Rf), tGo pre l = 0 → ∀ r ∈ l, sizeOk r = true
  | [], _, _, r, hr => by cases hr
  | x :: l, pre, h, r, hr => by
    unfold tGo at h
    by_cases h1 : sizeOk x = true
    · rw [if_neg (by rw [h1]; decide)] at h
      split at h
      · omega
      · rcases List.mem_cons.1 hr with rfl | h2
        · exact h1
        · exact tGo_sizes l _ h r h2
    · rw [if_pos (by simpa using h1)] at h
      omega
theorem tE_zero {l : List Rf} (h : tE l = 0) : l.length ≤ 64 ∧ ∀ r ∈ l, sizeOk r = true := by
  unfold tE at h
  by_cases h1 : l.length > 64
  · rw [if_pos h1] at h; omega
  · rw [if_neg h1] at h
    exact ⟨by omega, tGo_sizes l [] h⟩
theorem norm_m (r : Rf) : r.norm.m = r.m := by
  unfold Rf.norm
  split
  · rename_i h; rw [h]
  · rfl
theorem norm_z {r : Rf} (h : r.m = false) : r.norm.z = r.z := by
  unfold Rf.norm
  rw [if_neg (by rw [h]; decide)]
def BackQ (w : World) (e : Ending) (w' : World) : Prop := e = .returned (.bool true) ∧ Below w.heap.size w w'
set_option maxRecDepth 100000 in
set_option maxHeartbeats 3000000 in
theorem manback_any {K : World → Prop} (hL : Lasts K) (hT : cmTextOk K) (hR : cmReadOk K) (p : Option Addr) (n c : Nat) (L : List Fx) (pb : Option Addr) (nb cb : Nat) (zs : List Int) (w : World) (h : Gs encRf w p n L) (hpc : p = none → c = 0) (hnc : n ≤ c) (hk : ∀ x ∈ L, x.1.Ok) (hn : n ≤ 1048576) (hb : Bs w pb nb zs) (hpb : pb = none → cb = 0) (hlb : nb ≤ cb) (hcb : cb ≤ maxLen) (hnb : nb ≤ 1048576) (hK : K w) :
    Calls Tryd.prog 5 #[.slice p n c, .slice pb nb cb] w fun e w' => BackQ w e w' := by
  have HH := Lib.hid h
  have HK := Lib.hid hk
  have HT := Lib.hid (hT p n c L w h hpc hnc hk hn hK)
  have HTR := Lib.hid fun q m c M W (hW : Below w.heap.size w W) (hg : Gs encRf W q m M) (hpc : q = none → c = 0) (hmc : m ≤ c) (hk : ∀ x ∈ M, x.1.Ok) (hm : m ≤ 1048576) => hT q m c M W hg hpc hmc hk hm (hL _ _ hK hW)
  have HRT := Lib.hid fun q m c ys W (hW : Below w.heap.size w W) (hg : Bs W q m ys) (hpc : q = none → c = 0) (hmc : m ≤ c) (hcm : c ≤ maxLen) (hm : m ≤ 1048576) => hR q m c ys W hg hpc hmc hcm hm (hL _ _ hK hW)
  have HRB := Lib.hid fun W (hW : Below w.heap.size w W) => hR pb nb cb zs W (hb.later hW) hpb hlb hcb hnb (hL _ _ hK hW)
  have HLV := Lib.hid fun W (hW : Below w.heap.size w W) => lives17_any hL hT hR W (hL _ _ hK hW)
  have HBZ := Lib.hid hb
  have HNB := Lib.hid (Nat.le_trans hlb hcb)
  have HDK : Hid (∀ r ∈ rfL L, dok r.dg) := Lib.hid (fun r hr => by
    obtain ⟨x, hx, rfl⟩ := List.mem_map.1 hr
    exact (hk x hx).dg)
  have HLN := Lib.hid h.len
  unfold TxQ at HT HTR
  unfold RdQ at HRT HRB
  have HRO := Lib.hid (rd_ok (zs := zs))
  have HRX := Lib.hid fun h0 => read_text (zs := zs) h0
  have HNO := Lib.hid fun (h0 : (rdF zs).err ≠ 0) => rdGo_no _ _ _ _ h0
  have HNO2 : Hid ((rdF zs).err ≠ 0 → (rdF zs).l = []) := Lib.hid HNO.out
  clear HNO
  generalize rdF zs = F at *
  obtain ⟨fl, fe⟩ := F
  dsimp only at HRB HRO HRX HNO2
  have HTB := Lib.hid fun h0 => text_back (l := rfL L) HDK.out h0
  have HTZ := Lib.hid fun h0 => tE_zero (l := rfL L) h0
  have HTL : Hid (tE (rfL L) = 0 → (tB (rfL L)).length ≤ 1048576) := Lib.hid (fun h0 => by
    obtain ⟨h1, h2⟩ := tE_zero h0
    have h3 := txtN_length HDK.out h2
    have h4 : tB (rfL L) = txtN (rfL L) := by unfold tB txtN; rw [if_pos h0]
    rw [h4]
    omega)
  generalize tB (rfL L) = B at *
  generalize tE (rfL L) = E at *
  clear h hpc hnc hk hb hpb hlb hcb hT hR
  go_enter Tryd.func5, Tryd.ntmps5
  go_upto_region 2 with (go_at_call 6; refine HT.out.mono ?_; rintro e w1 ⟨q1, m1, c1, rfl, hb1, hmc1, hcm1, hpc1, hw1⟩; have HB1 := Lib.hid hb1; have HC1 := Lib.hid (And.intro hpc1 (And.intro hmc1 hcm1)); have HW1 := Lib.hid hw1; have HH1 := Lib.hid (HH.out.later hw1); clear hb1 hmc1 hcm1 hpc1 hw1)
  by_cases hE : E = 0
  · have dE : (E == 0) = true := by simpa using hE
    have HRD := Lib.hid (HTB.out hE)
    have HM1 : Hid (m1 ≤ 1048576) := Lib.hid (by rw [← HB1.out.len]; exact HTL.out hE)
    obtain ⟨hn64, _⟩ := HTZ.out hE
    have HR1 := Lib.hid (HRT.out q1 m1 c1 B w1 HW1.out HB1.out HC1.out.1 HC1.out.2.1 HC1.out.2.2 HM1.out)
    rw [HRD.out] at HR1
    rw [rfL_length, HLN.out] at hn64
    clear hE
    go_upto_region 4 with (go_at_call 10; refine HR1.out.mono ?_; rintro e w2 ⟨q2, m2, c2, M, rfl, hg2, hl2, _, _, _, hw2⟩; have HG2 := Lib.hid hg2; have HL2 := Lib.hid hl2; have HW2 := Lib.hid (below_step HW1.out hw2); have HH2 := Lib.hid (HH1.out.later hw2); clear hg2 hl2 hw2)
    have hm2 : m2 = n := by
      have h1 := congrArg List.length HL2.out
      rw [rfL_length, HG2.out.len] at h1
      rw [h1, List.length_map, rfL_length, HLN.out]
    subst hm2
    go_wp2
    go_loopw [9] (fun iv wr => ∃ k : Nat, k ≤ m2 ∧ iv = .int .i64 (k : Int) ∧ Hid (Below w.heap.size w wr) ∧ Hid (Below w2.heap.size w2 wr)) (fun iv _ => m2 - (intOf iv).toNat)
    case atStart => exact ⟨0, Nat.zero_le _, rfl, HW2, Lib.hid (Below.refl _ _)⟩
    case round =>
      obtain ⟨k, hkn, rfl, HBr, HB2r⟩ := hrel
      by_cases hlt : k < m2
      · obtain ⟨b1, o1, x, rfl, hx1, hx2, hx3, hr1⟩ := (HH2.out.later HB2r.out).rf k hlt
        obtain ⟨b2, o2, y, rfl, hy1, hy2, hy3, hr2⟩ := (HG2.out.later HB2r.out).rf k hlt
        have hyx : y.1 = x.1.norm := by
          rw [HL2.out, List.getElem?_map, hx2] at hy2
          simpa using hy2.symm
        have hki : (k : Int) < (m2 : Int) := by omega
        have hk0 : (0 : Int) ≤ (k : Int) := by omega
        obtain ⟨u0, _, u33⟩ := rf_cells hr1
        obtain ⟨v0, _, v33⟩ := rf_cells hr2
        have hdx := (HK.out x hx3).dg
        have hdd : y.1.dg = x.1.dg := by rw [hyx, norm_dg]
        have HLA : Hid (∀ W, (∃ m, W = wr.drewN m) → (Instr.loadAt 39 (.pointer (some ⟨b1, o1 + k * 34 + 1, none⟩))).run Tryd.prog W = .ok (.agg (bcs x.1.dg)) W) := Lib.hid (by rintro W ⟨m, rfl⟩; exact rf_dig (rng_later hr1 (below_drewN (Below.refl _ _) _)))
        have HLB : Hid (∀ W, (∃ m, W = wr.drewN m) → (Instr.loadAt 39 (.pointer (some ⟨b2, o2 + k * 34 + 1, none⟩))).run Tryd.prog W = .ok (.agg (bcs x.1.dg)) W) := Lib.hid (by rintro W ⟨m, rfl⟩; rw [← hdd]; exact rf_dig (rng_later hr2 (below_drewN (Below.refl _ _) _)))
        have heq : ∀ W, (Op.equalIn 10000 39 (.agg (bcs x.1.dg)) (.agg (bcs x.1.dg))).run Tryd.prog W = .ok true W := fun W => by rw [digest_eq x.1.dg x.1.dg hdx hdx W, decide_eq_true rfl]
        rw [show y.1.m = x.1.m by rw [hyx, norm_m]] at v0
        obtain ⟨mb, hmb⟩ : ∃ b, x.1.m = b := ⟨_, rfl⟩
        have HZ : Hid (mb = false → y.1.z = x.1.z) := Lib.hid (fun h => by rw [hyx]; exact norm_z (hmb.trans h))
        rw [hmb] at u0 v0
        obtain ⟨z1, hz1⟩ : ∃ z, x.1.z = z := ⟨_, rfl⟩
        obtain ⟨z2, hz2⟩ : ∃ z, y.1.z = z := ⟨_, rfl⟩
        rw [hz1] at u33 HZ
        rw [hz2] at v33 HZ
        obtain ⟨dd, hdd2⟩ : ∃ d, x.1.dg = d := ⟨_, rfl⟩
        rw [hdd2] at HLA HLB heq
        generalize bcs dd = DC at *
        clear hx1 hx2 hx3 hr1 hy1 hy2 hy3 hr2 hyx hdx hdd hmb hz1 hz2 hdd2
        cases mb
        · obtain rfl : z2 = z1 := HZ.out rfl
          have hzz : (z2 != z2) = false := by simp
          go_wp2
          refine wp_region_quiet_lit (by kernel_rfl) (by kernel_rfl) ?_
          repeat (go_big_quiet_step (fail))
          refine qwant ?hg1 fun K hK => qload 39 _ rfl _ rfl _ HLB.out (hK _ ?_)
          case hg1 => rfl
          clear hK K
          (try simp only [Act.put, List.setIfInBounds_toArray, List.set_cons_zero, List.set_cons_succ])
          repeat (go_big_quiet_step (fail))
          refine qwant ?hg2 fun K hK => qload 39 _ rfl _ rfl _ HLA.out (hK _ ?_)
          case hg2 => rfl
          clear hK K
          (try simp only [Act.put, List.setIfInBounds_toArray, List.set_cons_zero, List.set_cons_succ])
          repeat (go_big_quiet_step (fail))
          refine wpQuiet_nil ?_
          intro _ hw'
          obtain ⟨nq, hw''⟩ := hw'
          subst hw''
          have hbd : Below wr.heap.size wr (wr.drewN nq) := below_drewN (Below.refl _ _) _
          have HBX : Hid (Below w.heap.size w (wr.drewN nq)) := Lib.hid (below_step HBr.out hbd)
          have HBY : Hid (Below w2.heap.size w2 (wr.drewN nq)) := Lib.hid (below_step HB2r.out hbd)
          clear hbd heq
          generalize wr.drewN nq = wd at *
          go_wp2
          exact ⟨⟨k + 1, by omega, by go_num, HBX, HBY⟩, by simp [intOf] <;> omega⟩
        · go_wp2
          refine wp_region_quiet_lit (by kernel_rfl) (by kernel_rfl) ?_
          repeat (go_big_quiet_step (fail))
          refine qwant ?hg3 fun K hK => qload 39 _ rfl _ rfl _ HLB.out (hK _ ?_)
          case hg3 => rfl
          clear hK K
          (try simp only [Act.put, List.setIfInBounds_toArray, List.set_cons_zero, List.set_cons_succ])
          repeat (go_big_quiet_step (fail))
          refine qwant ?hg4 fun K hK => qload 39 _ rfl _ rfl _ HLA.out (hK _ ?_)
          case hg4 => rfl
          clear hK K
          (try simp only [Act.put, List.setIfInBounds_toArray, List.set_cons_zero, List.set_cons_succ])
          repeat (go_big_quiet_step (fail))
          refine wpQuiet_nil ?_
          intro _ hw'
          obtain ⟨nq, hw''⟩ := hw'
          subst hw''
          have hbd : Below wr.heap.size wr (wr.drewN nq) := below_drewN (Below.refl _ _) _
          have HBX : Hid (Below w.heap.size w (wr.drewN nq)) := Lib.hid (below_step HBr.out hbd)
          have HBY : Hid (Below w2.heap.size w2 (wr.drewN nq)) := Lib.hid (below_step HB2r.out hbd)
          clear hbd heq
          generalize wr.drewN nq = wd at *
          go_wp2
          exact ⟨⟨k + 1, by omega, by go_num, HBX, HBY⟩, by simp [intOf] <;> omega⟩
      · obtain rfl : k = m2 := by omega
        have hkk : ¬ (k : Int) < (k : Int) := by omega
        clear HTB HTZ HTL HRT HT HR1
        go_upto_region 12 with (go_at_call 10; refine (HRB.out _ HBr.out).mono ?_; rintro e w4 ⟨q4, m4, c4, M4, rfl, hg4, hl4, hmc4, hcm4, hpc4, hw4⟩; have HG4 := Lib.hid hg4; have HL4 := Lib.hid hl4; have HC4 := Lib.hid (And.intro hpc4 hmc4); have HW4 := Lib.hid (below_step HBr.out hw4); clear hg4 hl4 hmc4 hcm4 hpc4 hw4)
        by_cases hf : fe = 0
        · have df : (fe != 0) = false := by simpa using hf
          obtain ⟨ht1, ht2, ht3, ht4⟩ := HRX.out hf
          have hm4 : m4 ≤ 64 := by rw [← HG4.out.len, ← rfL_length, HL4.out]; exact ht3
          have HMO : Hid (∀ x ∈ M4, x.1.Ok) := Lib.hid (fun x hx => HRO.out x.1 (by rw [← HL4.out]; exact List.mem_map_of_mem hx))
          have HT4 := Lib.hid (HTR.out q4 m4 c4 M4 w4 HW4.out HG4.out HC4.out.1 HC4.out.2 HMO.out (by omega))
          rw [HL4.out, ht1, ht2] at HT4
          have HZS4 := Lib.hid (HBZ.out.later HW4.out)
          clear hf ht1 ht2 ht3 ht4
          go_upto_region 15 with (go_at_call 6; refine HT4.out.mono ?_; rintro e w5 ⟨q5, m5, c5, rfl, hb5, hmc5, hcm5, _, hw5⟩; have HB5 := Lib.hid hb5; have HC5 := Lib.hid (Nat.le_trans hmc5 hcm5); have HW5 := Lib.hid (below_step HW4.out hw5); have HZS5 := Lib.hid (HZS4.out.later hw5); clear hb5 hmc5 hcm5 hw5)
          go_wp2_with (first
            | (go_at_call 8; refine (same_any _ _ _ _ _ _ zs zs _ HC5.out HNB.out HB5.out HZS5.out).mono ?_; rintro e w6 ⟨rfl, q, hq⟩; rw [decide_eq_true (rfl : zs = zs)]; have HB6 : Hid (Below w.heap.size w w6) := Lib.hid (by rw [hq]; exact below_drewN HW5.out _); clear hq)
            | (go_at_call 9; refine (HLV.out _ HB6.out).mono ?_; rintro e w7 ⟨rfl, hb7⟩; have HB7 := Lib.hid (below_step HB6.out hb7); clear hb7))
          go_ret
          exact ⟨rfl, HB7.out⟩
        · have df : (fe != 0) = true := by simpa using hf
          have hm0 : m4 = 0 := by rw [← HG4.out.len, ← rfL_length, HL4.out, HNO2.out hf]; rfl
          subst hm0
          clear hf
          go_wp2_with (first
            | (go_at_call 9; refine (HLV.out _ HW4.out).mono ?_; rintro e w7 ⟨rfl, hb7⟩; have HB7 := Lib.hid (below_step HW4.out hb7); clear hb7))
          go_ret
          exact ⟨rfl, HB7.out⟩
  · have dE : (E == 0) = false := by simpa using hE
    clear hE
    go_upto_region 12 with (go_at_call 10; refine (HRB.out _ HW1.out).mono ?_; rintro e w4 ⟨q4, m4, c4, M4, rfl, hg4, hl4, hmc4, hcm4, hpc4, hw4⟩; have HG4 := Lib.hid hg4; have HL4 := Lib.hid hl4; have HC4 := Lib.hid (And.intro hpc4 hmc4); have HW4 := Lib.hid (below_step HW1.out hw4); clear hg4 hl4 hmc4 hcm4 hpc4 hw4)
    by_cases hf : fe = 0
    · have df : (fe != 0) = false := by simpa using hf
      obtain ⟨ht1, ht2, ht3, ht4⟩ := HRX.out hf
      have hm4 : m4 ≤ 64 := by rw [← HG4.out.len, ← rfL_length, HL4.out]; exact ht3
      have HMO : Hid (∀ x ∈ M4, x.1.Ok) := Lib.hid (fun x hx => HRO.out x.1 (by rw [← HL4.out]; exact List.mem_map_of_mem hx))
      have HT4 := Lib.hid (HTR.out q4 m4 c4 M4 w4 HW4.out HG4.out HC4.out.1 HC4.out.2 HMO.out (by omega))
      rw [HL4.out, ht1, ht2] at HT4
      have HZS4 := Lib.hid (HBZ.out.later HW4.out)
      clear hf ht1 ht2 ht3 ht4
      go_upto_region 15 with (go_at_call 6; refine HT4.out.mono ?_; rintro e w5 ⟨q5, m5, c5, rfl, hb5, hmc5, hcm5, _, hw5⟩; have HB5 := Lib.hid hb5; have HC5 := Lib.hid (Nat.le_trans hmc5 hcm5); have HW5 := Lib.hid (below_step HW4.out hw5); have HZS5 := Lib.hid (HZS4.out.later hw5); clear hb5 hmc5 hcm5 hw5)
      go_wp2_with (first
        | (go_at_call 8; refine (same_any _ _ _ _ _ _ zs zs _ HC5.out HNB.out HB5.out HZS5.out).mono ?_; rintro e w6 ⟨rfl, q, hq⟩; rw [decide_eq_true (rfl : zs = zs)]; have HB6 : Hid (Below w.heap.size w w6) := Lib.hid (by rw [hq]; exact below_drewN HW5.out _); clear hq)
        | (go_at_call 9; refine (HLV.out _ HB6.out).mono ?_; rintro e w7 ⟨rfl, hb7⟩; have HB7 := Lib.hid (below_step HB6.out hb7); clear hb7))
      go_ret
      exact ⟨rfl, HB7.out⟩
    · have df : (fe != 0) = true := by simpa using hf
      have hm0 : m4 = 0 := by rw [← HG4.out.len, ← rfL_length, HL4.out, HNO2.out hf]; rfl
      subst hm0
      clear hf
      go_wp2_with (first
        | (go_at_call 9; refine (HLV.out _ HW4.out).mono ?_; rintro e w7 ⟨rfl, hb7⟩; have HB7 := Lib.hid (below_step HW4.out hb7); clear hb7))
      go_ret
      exact ⟨rfl, HB7.out⟩
theorem manback_walk {K : World → Prop} (hL : Lasts K) (hT : cmTextOk K) (hR : cmReadOk K) (p : Option Addr) (n c : Nat) (L : List Fx) (pb : Option Addr) (nb cb : Nat) (zs : List Int) (w : World) (h : Gs encRf w p n L) (hpc : p = none → c = 0) (hnc : n ≤ c) (hk : ∀ x ∈ L, x.1.Ok) (hn : n ≤ 1048576) (hb : Bs w pb nb zs) (hpb : pb = none → cb = 0) (hlb : nb ≤ cb) (hcap : cb ≤ 1048576) (hK : K w) :
    Calls Tryd.prog 5 #[.slice p n c, .slice pb nb cb] w fun e w' => e = .returned (.bool true) ∧ Below w.heap.size w w' :=
  manback_any hL hT hR p n c L pb nb cb zs w h hpc hnc hk hn hb hpb hlb (by unfold maxLen; omega) (by omega) hK
end Go.Proofs.YtahjofjblhpndaaDoor
