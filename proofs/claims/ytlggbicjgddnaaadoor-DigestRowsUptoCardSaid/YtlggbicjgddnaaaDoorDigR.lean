/- The walk of the statement DigestRows. -/
import Derived.Test.YtlggbicjgddnaaaDoorDigC
namespace Go.Proofs.YtlggbicjgddnaaaDoor
set_option linter.unusedVariables false
open Go.RowKit Go.Lib

set_option maxRecDepth 100000 in
set_option maxHeartbeats 2000000 in
theorem digestrows_walk (hOf : OfOk) (hText : TextOk) (hRow : RowOk) (hHas : HasOk) (p : Option Addr) (n cap : Nat) (L : List (List Int)) (d : List Int) (w : World) (h : Ds w p n L) (hpc : p = none → cap = 0) (hlc : n ≤ cap) (hcm : cap ≤ maxLen) (hn : n ≤ 1048576) (hd : dok d) (hK : Kw w) :
    Calls Tryd.prog 5 #[.slice p n cap, .agg (bcs d)] w fun e w' => e = .returned (.bool true) ∧ Below w.heap.size w w' := by
  have HOF := Lib.hid hOf
  have HTX := Lib.hid hText
  have HRW := Lib.hid hRow
  have HHS := Lib.hid hHas
  have H := Lib.hid h
  have HPC := Lib.hid hpc
  have HLC := Lib.hid hlc
  have HCM := Lib.hid hcm
  have HD := Lib.hid hd
  have HK := Lib.hid hK
  have HPOS := Lib.hid hK.pos
  have HB0 : Hid (Below w.heap.size w (w.alloc (.cells (bcs d) 24))) := Lib.hid ((Below.refl _ _).alloc (Nat.le_refl _) _)
  have HY0 : Hid (Yw (w.alloc (.cells (bcs d) 24)) w.heap.size 24 d) := Lib.hid (heap_alloc_new _ _)
  have HRL : Hid ((drow L).length ≤ n) := Lib.hid (by have := drow_length L; rw [h.1] at this; exact this)
  have HME : Hid (decide (d ∈ L) = decide (d ∈ drow L)) := Lib.hid (decide_eq_decide.2 (drow_mem L d).symm)
  have HRI : Hid (drises (drow L)) := Lib.hid (drow_rises (n := 32) fun x hx => (h.2.1 x hx).1)
  have hU := Tryd.underlying24
  have hI : (Tryd.prog.info? 24).map (·.size) = some (d.map (Value.int .u8)).length := by rw [List.length_map, hd.1]; exact size32
  clear h hpc hlc hcm hd hK hOf hText hRow hHas
  go_enter Tryd.func5, Tryd.ntmps5
  go_wp2_with fail
  generalize w.alloc (.cells (bcs d) 24) = w0 at *
  refine (HRW.out p n cap L _ (H.out.later HB0.out) HPC.out HLC.out HCM.out hn).mono ?_
  rintro e w1 ⟨v1, rfl, ho1, hb1⟩
  have HB1 := Lib.hid (below_step HB0.out hb1)
  have HY1 := Lib.hid (HY0.out.later hb1)
  have HO1 := Lib.hid ho1
  clear ho1 hb1
  obtain ⟨p1, c1, hv1, hlc1, hcm1, _, hpc1, _⟩ := HO1.out.open
  generalize hRR : drow L = R at *
  have HRR := Lib.hid hRR
  obtain ⟨q, hq⟩ : ∃ q, R.length = q := ⟨_, rfl⟩
  rw [hq] at hlc1 hv1 HRL
  subst hv1
  have HQ := Lib.hid hq
  have HDS1 := Lib.hid HO1.out.ds
  have HPC1 := Lib.hid hpc1
  have HLC1 := Lib.hid hlc1
  have HCM1 := Lib.hid hcm1
  have HQM : Hid (q ≤ maxLen) := Lib.hid (Nat.le_trans hlc1 hcm1)
  have HQN : Hid (q ≤ 1048576) := Lib.hid (by have := HRL.out; omega)
  clear hq hpc1 hlc1 hcm1 hRR HO1
  go_wp2
  have HB2 : Hid (Below w.heap.size w w1.drew) := Lib.hid (below_step HB1.out (Below.refl _ _).drew)
  have HY2 : Hid (Yw w1.drew w.heap.size 24 d) := Lib.hid (HY1.out.later (Below.refl _ _).drew)
  have HD2 := Lib.hid (HDS1.out.later (Below.refl _ _).drew)
  clear HB1 HY1 HDS1
  refine wp_region_held_drew (S := (fun W => W.rangeAt w.heap.size 0 (d.map (Value.int .u8)))) (by kernel_rfl) HY2.out.rangeAll (fun hHeld => ?_)
  generalize w1.drew = w2 at *
  refine take_at 0 (v := ?vv1) rfl (by kernel_rfl) (by kernel_rfl) (by kernel_rfl) (fun _ _ _ h => h) (Or.inl ⟨by rfl, ?hy1⟩) (by assumption) ?rest1
  case hy1 => intro w hSw; (try dsimp only at hSw); go_simp; (try with_reducible rfl)
  (try simp only [Act.put, List.setIfInBounds_toArray, List.set_cons_zero, List.set_cons_succ])
  refine take_at 1 (v := ?vv2) rfl (by kernel_rfl) (by kernel_rfl) (by kernel_rfl) (fun _ _ _ h => h) (Or.inl ⟨by rfl, ?hy2⟩) (by assumption) ?rest2
  case hy2 => intro w hSw; (try dsimp only at hSw); go_simp; (try with_reducible rfl)
  (try simp only [Act.put, List.setIfInBounds_toArray, List.set_cons_zero, List.set_cons_succ])
  refine ready_at 2 rfl (by kernel_rfl) (fun K hK => ?_)
  go_simp
  refine (rrow_any p n cap L _ (H.out.later HB2.out) hn).mono ?_
  rintro e w3 ⟨v3, rfl, ho3, hb3⟩
  have HB3 := Lib.hid (below_step HB2.out hb3)
  have HY3 := Lib.hid (HY2.out.later hb3)
  have HD3 := Lib.hid (HD2.out.later hb3)
  rw [HRR.out] at ho3
  obtain ⟨p3, c3, hv3, _, _, _, _, _⟩ := ho3.open
  rw [HQ.out] at hv3
  subst hv3
  have HE3 := Lib.hid ho3.ds
  clear ho3 hb3
  first
    | refine hK.out _ _ ?hS3 (fun hHeld => ?rest3)
    | (go_wp2_with fail; refine hK.out _ _ ?hS3 (fun hHeld => ?rest3))
  case hS3 => (try dsimp only); exact HY3.out.rangeAll
  clear hK K
  (try simp only [Act.put, List.setIfInBounds_toArray, List.set_cons_zero, List.set_cons_succ])
  refine ready_at 3 rfl (by kernel_rfl) (fun K hK => ?_)
  go_simp
  refine (rsame_any p1 p3 q q c1 c3 R R _ HD3.out HE3.out HQM.out HQM.out).mono ?_
  rintro e w4 ⟨rfl, hb4⟩
  have HB4 := Lib.hid (below_step HB3.out hb4)
  have HY4 := Lib.hid (HY3.out.later hb4)
  have HD4 := Lib.hid (HD3.out.later hb4)
  clear hb4
  rw [decide_eq_true (rfl : R = R)]
  first
    | refine hK.out _ _ ?hS4 (fun hHeld => ?rest4)
    | (go_wp2_with fail; refine hK.out _ _ ?hS4 (fun hHeld => ?rest4))
  case hS4 => (try dsimp only); exact HY4.out.rangeAll
  clear hK K
  (try simp only [Act.put, List.setIfInBounds_toArray, List.set_cons_zero, List.set_cons_succ])
  refine take_at 4 (v := ?vv5) rfl (by kernel_rfl) (by kernel_rfl) (by kernel_rfl) (fun _ _ _ h => h) (Or.inl ⟨by rfl, ?hy5⟩) (by assumption) ?rest5
  case hy5 => intro w hSw; (try dsimp only at hSw); go_simp; (try with_reducible rfl)
  (try simp only [Act.put, List.setIfInBounds_toArray, List.set_cons_zero, List.set_cons_succ])
  refine take_at 5 (v := ?vv6) rfl (by kernel_rfl) (by kernel_rfl) (by kernel_rfl) (fun _ _ _ h => h) (Or.inl ⟨by rfl, ?hy6⟩) (by assumption) ?rest6
  case hy6 => intro w hSw; (try dsimp only at hSw); go_simp; (try with_reducible rfl)
  (try simp only [Act.put, List.setIfInBounds_toArray, List.set_cons_zero, List.set_cons_succ])
  refine take_at 8 (v := ?vv7) rfl (by kernel_rfl) (by kernel_rfl) (by kernel_rfl) (fun _ _ _ h => h) (Or.inl ⟨by rfl, ?hy7⟩) (by assumption) ?rest7
  case hy7 => intro w hSw; (try dsimp only at hSw); go_simp; (try with_reducible rfl)
  (try simp only [Act.put, List.setIfInBounds_toArray, List.set_cons_zero, List.set_cons_succ])
  refine take_at 6 rfl (by kernel_rfl) (by kernel_rfl) (by kernel_rfl) (fun _ _ _ h => h) (yieldsIf_load_mid (by rfl) _ _ rfl _ _ rfl _ _ (fun _ h => h) hU rfl hI) (by assumption) ?_
  (try simp only [Act.put, List.setIfInBounds_toArray, List.set_cons_zero, List.set_cons_succ])
  refine take_at 9 rfl (by kernel_rfl) (by kernel_rfl) (by kernel_rfl) (fun _ _ _ h => h) (yieldsIf_load_mid (by rfl) _ _ rfl _ _ rfl _ _ (fun _ h => h) hU rfl hI) (by assumption) ?_
  (try simp only [Act.put, List.setIfInBounds_toArray, List.set_cons_zero, List.set_cons_succ])
  refine ready_at 7 rfl (by kernel_rfl) (fun K hK => ?_)
  go_simp
  refine (HHS.out p1 q c1 R d _ HD4.out HPC1.out HLC1.out HCM1.out HQN.out HD.out HRI.out).mono ?_
  rintro e w5 ⟨rfl, hb5⟩
  have HB5 := Lib.hid (below_step HB4.out hb5)
  have HY5 := Lib.hid (HY4.out.later hb5)
  clear hb5
  first
    | refine hK.out _ _ ?hS8 (fun hHeld => ?rest8)
    | (go_wp2_with fail; refine hK.out _ _ ?hS8 (fun hHeld => ?rest8))
  case hS8 => (try dsimp only); exact HY5.out.rangeAll
  clear hK K
  (try simp only [Act.put, List.setIfInBounds_toArray, List.set_cons_zero, List.set_cons_succ])
  refine ready_at 10 rfl (by kernel_rfl) (fun K hK => ?_)
  go_simp
  refine (rhas_any p n cap L d _ (H.out.later HB5.out) HD.out hn).mono ?_
  rintro e w6 ⟨rfl, hb6⟩
  have HB6 := Lib.hid (below_step HB5.out hb6)
  have HY6 := Lib.hid (HY5.out.later hb6)
  clear hb6
  rw [HME.out]
  first
    | refine hK.out _ _ ?hS9 (fun hHeld => ?rest9)
    | (go_wp2_with fail; refine hK.out _ _ ?hS9 (fun hHeld => ?rest9))
  case hS9 => (try dsimp only); exact HY6.out.rangeAll
  clear hK K
  (try simp only [Act.put, List.setIfInBounds_toArray, List.set_cons_zero, List.set_cons_succ])
  generalize decide (d ∈ R) = bm
  refine take_at 11 (v := ?vv10) rfl (by kernel_rfl) (by kernel_rfl) (by kernel_rfl) (fun _ _ _ h => h) (Or.inl ⟨by rfl, ?hy10⟩) (by assumption) ?rest10
  case hy10 => intro w hSw; (try dsimp only at hSw); go_simp; (try with_reducible rfl)
  (try simp only [Act.put, List.setIfInBounds_toArray, List.set_cons_zero, List.set_cons_succ])
  refine take_at 12 (v := ?vv11) rfl (by kernel_rfl) (by kernel_rfl) (by kernel_rfl) (fun _ _ _ h => h) (Or.inl ⟨by rfl, ?hy11⟩) (by assumption) ?rest11
  case hy11 => intro w hSw; (try dsimp only at hSw); go_simp; (try with_reducible rfl)
  (try simp only [Act.put, List.setIfInBounds_toArray, List.set_cons_zero, List.set_cons_succ])
  refine take_at 13 (v := ?vv12) rfl (by kernel_rfl) (by kernel_rfl) (by kernel_rfl) (fun _ _ _ h => h) (Or.inl ⟨by rfl, ?hy12⟩) (by assumption) ?rest12
  case hy12 => intro w hSw; (try dsimp only at hSw); go_simp; (try with_reducible rfl)
  (try simp only [Act.put, List.setIfInBounds_toArray, List.set_cons_zero, List.set_cons_succ])
  refine ready_at 14 rfl (by kernel_rfl) (fun K hK => ?_)
  go_simp
  refine (dlives_any HOF.out HTX.out _ (HK.out.later HB6.out HPOS.out)).mono ?_
  rintro e w7 ⟨rfl, hb7⟩
  have HB7 := Lib.hid (below_step HB6.out hb7)
  have HY7 := Lib.hid (HY6.out.later hb7)
  clear hb7
  first
    | refine hK.out _ _ ?hS13 (fun hHeld => ?rest13)
    | (go_wp2_with fail; refine hK.out _ _ ?hS13 (fun hHeld => ?rest13))
  case hS13 => (try dsimp only); exact HY7.out.rangeAll
  clear hK K
  (try simp only [Act.put, List.setIfInBounds_toArray, List.set_cons_zero, List.set_cons_succ])
  refine take_at 15 (v := ?vv14) rfl (by kernel_rfl) (by kernel_rfl) (by kernel_rfl) (fun _ _ _ h => h) (Or.inl ⟨by rfl, ?hy14⟩) (by assumption) ?rest14
  case hy14 => intro w hSw; (try dsimp only at hSw); go_simp; (try with_reducible rfl)
  (try simp only [Act.put, List.setIfInBounds_toArray, List.set_cons_zero, List.set_cons_succ])
  refine take_at 16 (v := ?vv15) rfl (by kernel_rfl) (by kernel_rfl) (by kernel_rfl) (fun _ _ _ h => h) (Or.inl ⟨by rfl, ?hy15⟩) (by assumption) ?rest15
  case hy15 => intro w hSw; (try dsimp only at hSw); go_simp; (try with_reducible rfl)
  (try simp only [Act.put, List.setIfInBounds_toArray, List.set_cons_zero, List.set_cons_succ])
  refine wpAnyH_done (by kernel_rfl) ?_ _
  go_wp2
  go_ret
  exact ⟨rfl, HB7.out⟩
end Go.Proofs.YtlggbicjgddnaaaDoor
