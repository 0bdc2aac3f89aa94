/- The walk of the statement DigestTexts. -/
import Derived.Test.YtlggbicjgddnaaaDoorDigC
import Derived.Test.YtlggbicjgddnaaaDoorShaT0
import Derived.Deep.Cut
namespace Go.Proofs.YtlggbicjgddnaaaDoor
set_option linter.unusedVariables false
open Go.RowKit Go.Lib

set_option maxRecDepth 100000 in
set_option maxHeartbeats 2000000 in
theorem digesttexts_walk (hOf : OfOk) (hText : TextOk) (hRead : ReadOk) (p : Option Addr) (len cap : Nat) (zs : List Int) (d : List Int) (s : ByteArray) (w : World) (h : Bs w p len zs) (hpc : p = none → cap = 0) (hlc : len ≤ cap) (hcm : cap ≤ maxLen) (hlen : len ≤ 1048576) (hd : dok d) (hs : s.size ≤ 140737488355328) (hK : Kw w) :
    Calls Tryd.prog 3 #[.slice p len cap, .agg (bcs d), .string s] w fun e w' => e = .returned (.bool true) ∧ Below w.heap.size w w' := by
  have HOF := Lib.hid hOf
  have HTX := Lib.hid hText
  have HRD := Lib.hid hRead
  have H := Lib.hid h
  have HPC := Lib.hid hpc
  have HLC := Lib.hid hlc
  have HCM := Lib.hid hcm
  have HD := Lib.hid hd
  have HK := Lib.hid hK
  have HPOS := Lib.hid hK.pos
  have HB0 : Hid (Below w.heap.size w (w.alloc (.cells (bcs d) 24))) := Lib.hid ((Below.refl _ _).alloc (Nat.le_refl _) _)
  have HY0 : Hid (Yw (w.alloc (.cells (bcs d) 24)) w.heap.size 24 d) := Lib.hid (heap_alloc_new _ _)
  have hU := Tryd.underlying24
  have hI : (Tryd.prog.info? 24).map (·.size) = some (d.map (Value.int .u8)).length := by rw [List.length_map, hd.1]; exact size32
  have HXK := Lib.hid (dans_ok (numsOf s))
  have HRS := Lib.hid (hRead s)
  have HRR := Lib.hid (fun W => rread_any s W hs)
  obtain ⟨y, hy⟩ : ∃ y, shaS zs = y := ⟨_, rfl⟩
  have HSE := Lib.hid hy
  have heq := digest_refl y (by rw [← hy]; exact shaS_ok zs)
  clear hy
  have HS := Lib.hid hs
  clear h hpc hlc hcm hd hK hOf hText hRead hs
  generalize dans (numsOf s) = x at *
  generalize derr (numsOf s) = E at *
  have hI2 : (Tryd.prog.info? 24).map (·.size) = some (x.map (Value.int .u8)).length := by rw [List.length_map, HXK.out.1]; exact size32
  have HZX : Hid ((Tryd.prog.info? 24).map (·.size) = some (bcs x).size) := Lib.hid (by rw [bcs_size, HXK.out.1]; exact size32)
  have HZ2 : Hid ((bcs dzero).size = (bcs x).size) := Lib.hid (by rw [bcs_size, bcs_size, HXK.out.1]; rfl)
  have heq2 : ∀ W, (Op.equalIn 10000 24 (.agg (x.map (Value.int .u8)).toArray) (.agg (x.map (Value.int .u8)).toArray)).run Tryd.prog W = .ok true W := digest_refl x HXK.out
  go_enter Tryd.func3, Tryd.ntmps3
  go_wp2_with fail
  generalize w.alloc (.cells (bcs d) 24) = w0 at *
  refine (HRS.out _ HS.out).mono ?_
  rintro e w1 ⟨rfl, hb1⟩
  have HB1 := Lib.hid (below_step HB0.out hb1)
  have HY1 := Lib.hid (HY0.out.later hb1)
  clear hb1
  go_upto_region 2 with (refine wpList_store_row rfl 24 _ _ rfl w1.heap.size _ rfl rfl 24 _ (heap_alloc_new _ _) HZX.out HZ2.out (bcs_one _) ?_; generalize hw2 : World.setRow _ _ _ = w2; have HL2 := Lib.hid (lay_dig hw2); clear hw2)
  have HB2 := Lib.hid (below_step HB1.out HL2.out.2)
  have HY2 := Lib.hid (HY1.out.later HL2.out.2)
  have HX2 := Lib.hid HL2.out.1
  clear HL2 HB1 HY1
  go_wp2_with fail
  refine (HRR.out _).mono ?_
  rintro e w3 ⟨rfl, hb3⟩
  have HB3 := Lib.hid (below_step HB2.out hb3)
  have HY3 := Lib.hid (HY2.out.later hb3)
  have HX3 := Lib.hid (HX2.out.later hb3)
  clear hb3 HB2 HY2 HX2
  go_upto_region 3 with (refine wpList_store_row rfl 24 _ _ rfl w3.heap.size _ rfl rfl 24 _ (heap_alloc_new _ _) HZX.out HZ2.out (bcs_one _) ?_; generalize hw4 : World.setRow _ _ _ = w4; have HL4 := Lib.hid (lay_dig hw4); clear hw4)
  have HB4 : Hid (Below w.heap.size w w4.drew) := Lib.hid (below_step (below_step HB3.out HL4.out.2) (Below.refl _ _).drew)
  have HY4 : Hid (Yw w4.drew w.heap.size 24 d) := Lib.hid ((HY3.out.later HL4.out.2).later (Below.refl _ _).drew)
  have HX4 : Hid (Yw w4.drew w1.heap.size 24 x) := Lib.hid ((HX3.out.later HL4.out.2).later (Below.refl _ _).drew)
  have HZ4 : Hid (Yw w4.drew w3.heap.size 24 x) := Lib.hid (HL4.out.1.later (Below.refl _ _).drew)
  clear HL4 HB3 HY3 HX3
  refine wp_region_held_drew (S := (fun W => W.rangeAt w.heap.size 0 (d.map (Value.int .u8)) ∧ W.rangeAt w1.heap.size 0 (x.map (Value.int .u8)) ∧ W.rangeAt w3.heap.size 0 (x.map (Value.int .u8)))) (by kernel_rfl) (⟨HY4.out.rangeAll, HX4.out.rangeAll, HZ4.out.rangeAll⟩) (fun hHeld => ?_)
  generalize w4.drew = w4' at *
  refine take_at 0 (v := ?vv1) rfl (by kernel_rfl) (by kernel_rfl) (by kernel_rfl) (fun _ _ _ h => h) (Or.inl ⟨by rfl, ?hy1⟩) (by assumption) ?rest1
  case hy1 => intro w hSw; (try dsimp only at hSw); go_simp; (try with_reducible rfl)
  (try simp only [Act.put, List.setIfInBounds_toArray, List.set_cons_zero, List.set_cons_succ])
  refine take_at 2 (v := ?vv2) rfl (by kernel_rfl) (by kernel_rfl) (by kernel_rfl) (fun _ _ _ h => h) (Or.inl ⟨by rfl, ?hy2⟩) (by assumption) ?rest2
  case hy2 => intro w hSw; (try dsimp only at hSw); go_simp; (try with_reducible rfl)
  (try simp only [Act.put, List.setIfInBounds_toArray, List.set_cons_zero, List.set_cons_succ])
  refine ready_at 1 rfl (by kernel_rfl) (fun K hK => ?_)
  go_simp
  refine (HOF.out p len cap zs _ (H.out.later HB4.out) HPC.out HLC.out HCM.out hlen (HK.out.later HB4.out HPOS.out)).mono ?_
  rintro e w5 ⟨rfl, hb5⟩
  have HB5 := Lib.hid (below_step HB4.out hb5)
  have HY5 := Lib.hid (HY4.out.later hb5)
  have HX5 := Lib.hid (HX4.out.later hb5)
  have HZ5 := Lib.hid (HZ4.out.later hb5)
  clear hb5
  rw [HSE.out]
  first
    | refine hK.out _ _ ?hS3 (fun hHeld => ?rest3)
    | (go_wp2_with fail; refine hK.out _ _ ?hS3 (fun hHeld => ?rest3))
  case hS3 => (try dsimp only); exact ⟨HY5.out.rangeAll, HX5.out.rangeAll, HZ5.out.rangeAll⟩
  clear hK K
  (try simp only [Act.put, List.setIfInBounds_toArray, List.set_cons_zero, List.set_cons_succ])
  refine ready_at 3 rfl (by kernel_rfl) (fun K hK => ?_)
  go_simp
  refine (rsum_any p len cap zs _ (H.out.later HB5.out) HPC.out hlen).mono ?_
  rintro e w6 ⟨rfl, hb6⟩
  have HB6 := Lib.hid (below_step HB5.out hb6)
  have HY6 := Lib.hid (HY5.out.later hb6)
  have HX6 := Lib.hid (HX5.out.later hb6)
  have HZ6 := Lib.hid (HZ5.out.later hb6)
  clear hb6
  rw [HSE.out]
  first
    | refine hK.out _ _ ?hS4 (fun hHeld => ?rest4)
    | (go_wp2_with fail; refine hK.out _ _ ?hS4 (fun hHeld => ?rest4))
  case hS4 => (try dsimp only); exact ⟨HY6.out.rangeAll, HX6.out.rangeAll, HZ6.out.rangeAll⟩
  clear hK K
  (try simp only [Act.put, List.setIfInBounds_toArray, List.set_cons_zero, List.set_cons_succ])
  refine take_at 4 (v := ?vv5) rfl (by kernel_rfl) (by kernel_rfl) (by kernel_rfl) (fun _ _ _ h => h) (Or.inl ⟨by rfl, ?hy5⟩) (by assumption) ?rest5
  case hy5 => intro w hSw; (try dsimp only at hSw); go_simp; (try with_reducible rfl)
  (try simp only [Act.put, List.setIfInBounds_toArray, List.set_cons_zero, List.set_cons_succ])
  refine take_at 5 (v := ?vv6) rfl (by kernel_rfl) (by kernel_rfl) (by kernel_rfl) (fun _ _ _ h => h) (Or.inl ⟨by rfl, ?hy6⟩) (by assumption) ?rest6
  case hy6 => intro w hSw; (try dsimp only at hSw); go_simp; (try with_reducible rfl)
  (try simp only [Act.put, List.setIfInBounds_toArray, List.set_cons_zero, List.set_cons_succ])
  refine take_at 6 rfl (by kernel_rfl) (by kernel_rfl) (by kernel_rfl) (fun _ _ _ h => h) (yieldsIf_load_mid (by rfl) _ _ rfl _ _ rfl _ _ (fun _ h => h.1) hU rfl hI) (by assumption) ?_
  (try simp only [Act.put, List.setIfInBounds_toArray, List.set_cons_zero, List.set_cons_succ])
  refine take_at 8 rfl (by kernel_rfl) (by kernel_rfl) (by kernel_rfl) (fun _ _ _ h => h) (yieldsIf_load_mid (by rfl) _ _ rfl _ _ rfl _ _ (fun _ h => h.1) hU rfl hI) (by assumption) ?_
  (try simp only [Act.put, List.setIfInBounds_toArray, List.set_cons_zero, List.set_cons_succ])
  refine ready_at 7 rfl (by kernel_rfl) (fun K hK => ?_)
  go_simp
  refine (HTX.out d _ HD.out).mono ?_
  rintro e w7 ⟨rfl, hb7⟩
  have HB7 := Lib.hid (below_step HB6.out hb7)
  have HY7 := Lib.hid (HY6.out.later hb7)
  have HX7 := Lib.hid (HX6.out.later hb7)
  have HZ7 := Lib.hid (HZ6.out.later hb7)
  clear hb7
  first
    | refine hK.out _ _ ?hS7 (fun hHeld => ?rest7)
    | (go_wp2_with fail; refine hK.out _ _ ?hS7 (fun hHeld => ?rest7))
  case hS7 => (try dsimp only); exact ⟨HY7.out.rangeAll, HX7.out.rangeAll, HZ7.out.rangeAll⟩
  clear hK K
  (try simp only [Act.put, List.setIfInBounds_toArray, List.set_cons_zero, List.set_cons_succ])
  refine ready_at 9 rfl (by kernel_rfl) (fun K hK => ?_)
  go_simp
  refine (rtext_any d _ HD.out).mono ?_
  rintro e w8 ⟨rfl, hb8⟩
  have HB8 := Lib.hid (below_step HB7.out hb8)
  have HY8 := Lib.hid (HY7.out.later hb8)
  have HX8 := Lib.hid (HX7.out.later hb8)
  have HZ8 := Lib.hid (HZ7.out.later hb8)
  clear hb8
  first
    | refine hK.out _ _ ?hS8 (fun hHeld => ?rest8)
    | (go_wp2_with fail; refine hK.out _ _ ?hS8 (fun hHeld => ?rest8))
  case hS8 => (try dsimp only); exact ⟨HY8.out.rangeAll, HX8.out.rangeAll, HZ8.out.rangeAll⟩
  clear hK K
  (try simp only [Act.put, List.setIfInBounds_toArray, List.set_cons_zero, List.set_cons_succ])
  generalize strOfNums (dtext d) = tx at *
  refine take_at 10 (v := ?vv9) rfl (by kernel_rfl) (by kernel_rfl) (by kernel_rfl) (fun _ _ _ h => h) (Or.inl ⟨by rfl, ?hy9⟩) (by assumption) ?rest9
  case hy9 => intro w hSw; (try dsimp only at hSw); go_simp; (try with_reducible rfl)
  (try simp only [Act.put, List.setIfInBounds_toArray, List.set_cons_zero, List.set_cons_succ])
  refine take_at 11 (v := ?vv10) rfl (by kernel_rfl) (by kernel_rfl) (by kernel_rfl) (fun _ _ _ h => h) (Or.inl ⟨by rfl, ?hy10⟩) (by assumption) ?rest10
  case hy10 => intro w hSw; (try dsimp only at hSw); go_simp; (try with_reducible rfl)
  (try simp only [Act.put, List.setIfInBounds_toArray, List.set_cons_zero, List.set_cons_succ])
  refine take_at 12 (v := ?vv11) rfl (by kernel_rfl) (by kernel_rfl) (by kernel_rfl) (fun _ _ _ h => h) (Or.inl ⟨by rfl, ?hy11⟩) (by assumption) ?rest11
  case hy11 => intro w hSw; (try dsimp only at hSw); go_simp; (try with_reducible rfl)
  (try simp only [Act.put, List.setIfInBounds_toArray, List.set_cons_zero, List.set_cons_succ])
  refine take_at 13 rfl (by kernel_rfl) (by kernel_rfl) (by kernel_rfl) (fun _ _ _ h => h) (yieldsIf_load_mid (by rfl) _ _ rfl _ _ rfl _ _ (fun _ h => h.2.1) hU rfl hI2) (by assumption) ?_
  (try simp only [Act.put, List.setIfInBounds_toArray, List.set_cons_zero, List.set_cons_succ])
  refine take_at 14 rfl (by kernel_rfl) (by kernel_rfl) (by kernel_rfl) (fun _ _ _ h => h) (yieldsIf_load_mid (by rfl) _ _ rfl _ _ rfl _ _ (fun _ h => h.2.2) hU rfl hI2) (by assumption) ?_
  (try simp only [Act.put, List.setIfInBounds_toArray, List.set_cons_zero, List.set_cons_succ])
  refine take_at 15 (v := ?vv12) rfl (by kernel_rfl) (by kernel_rfl) (by kernel_rfl) (fun _ _ _ h => h) (Or.inl ⟨by rfl, ?hy12⟩) (by assumption) ?rest12
  case hy12 => intro w hSw; (try dsimp only at hSw); go_simp; (try with_reducible rfl)
  (try simp only [Act.put, List.setIfInBounds_toArray, List.set_cons_zero, List.set_cons_succ])
  refine take_at 16 (v := ?vv13) rfl (by kernel_rfl) (by kernel_rfl) (by kernel_rfl) (fun _ _ _ h => h) (Or.inl ⟨by rfl, ?hy13⟩) (by assumption) ?rest13
  case hy13 => intro w hSw; (try dsimp only at hSw); go_simp; (try with_reducible rfl)
  (try simp only [Act.put, List.setIfInBounds_toArray, List.set_cons_zero, List.set_cons_succ])
  refine take_at 17 (v := ?vv14) rfl (by kernel_rfl) (by kernel_rfl) (by kernel_rfl) (fun _ _ _ h => h) (Or.inl ⟨by rfl, ?hy14⟩) (by assumption) ?rest14
  case hy14 => intro w hSw; (try dsimp only at hSw); go_simp; (try with_reducible rfl)
  (try simp only [Act.put, List.setIfInBounds_toArray, List.set_cons_zero, List.set_cons_succ])
  refine take_at 18 (v := ?vv15) rfl (by kernel_rfl) (by kernel_rfl) (by kernel_rfl) (fun _ _ _ h => h) (Or.inl ⟨by rfl, ?hy15⟩) (by assumption) ?rest15
  case hy15 => intro w hSw; (try dsimp only at hSw); go_simp; (try with_reducible rfl)
  (try simp only [Act.put, List.setIfInBounds_toArray, List.set_cons_zero, List.set_cons_succ])
  refine take_at 19 (v := ?vv16) rfl (by kernel_rfl) (by kernel_rfl) (by kernel_rfl) (fun _ _ _ h => h) (Or.inl ⟨by rfl, ?hy16⟩) (by assumption) ?rest16
  case hy16 => intro w hSw; (try dsimp only at hSw); go_simp; (try with_reducible rfl)
  (try simp only [Act.put, List.setIfInBounds_toArray, List.set_cons_zero, List.set_cons_succ])
  refine take_at 20 (v := ?vv17) rfl (by kernel_rfl) (by kernel_rfl) (by kernel_rfl) (fun _ _ _ h => h) (Or.inl ⟨by rfl, ?hy17⟩) (by assumption) ?rest17
  case hy17 => intro w hSw; (try dsimp only at hSw); go_simp; (try with_reducible rfl)
  (try simp only [Act.put, List.setIfInBounds_toArray, List.set_cons_zero, List.set_cons_succ])
  refine take_at 21 (v := ?vv18) rfl (by kernel_rfl) (by kernel_rfl) (by kernel_rfl) (fun _ _ _ h => h) (Or.inl ⟨by rfl, ?hy18⟩) (by assumption) ?rest18
  case hy18 => intro w hSw; (try dsimp only at hSw); go_simp; (try with_reducible rfl)
  (try simp only [Act.put, List.setIfInBounds_toArray, List.set_cons_zero, List.set_cons_succ])
  refine take_at 22 (v := ?vv19) rfl (by kernel_rfl) (by kernel_rfl) (by kernel_rfl) (fun _ _ _ h => h) (Or.inl ⟨by rfl, ?hy19⟩) (by assumption) ?rest19
  case hy19 => intro w hSw; (try dsimp only at hSw); go_simp; (try with_reducible rfl)
  (try simp only [Act.put, List.setIfInBounds_toArray, List.set_cons_zero, List.set_cons_succ])
  refine ready_at 23 rfl (by kernel_rfl) (fun K hK => ?_)
  go_simp
  refine (dlives_any HOF.out HTX.out _ (HK.out.later HB8.out HPOS.out)).mono ?_
  rintro e w9 ⟨rfl, hb9⟩
  have HB9 := Lib.hid (below_step HB8.out hb9)
  have HY9 := Lib.hid (HY8.out.later hb9)
  have HX9 := Lib.hid (HX8.out.later hb9)
  have HZ9 := Lib.hid (HZ8.out.later hb9)
  clear hb9
  first
    | refine hK.out _ _ ?hS20 (fun hHeld => ?rest20)
    | (go_wp2_with fail; refine hK.out _ _ ?hS20 (fun hHeld => ?rest20))
  case hS20 => (try dsimp only); exact ⟨HY9.out.rangeAll, HX9.out.rangeAll, HZ9.out.rangeAll⟩
  clear hK K
  (try simp only [Act.put, List.setIfInBounds_toArray, List.set_cons_zero, List.set_cons_succ])
  refine take_at 24 (v := ?vv21) rfl (by kernel_rfl) (by kernel_rfl) (by kernel_rfl) (fun _ _ _ h => h) (Or.inl ⟨by rfl, ?hy21⟩) (by assumption) ?rest21
  case hy21 => intro w hSw; (try dsimp only at hSw); go_simp; (try with_reducible rfl)
  (try simp only [Act.put, List.setIfInBounds_toArray, List.set_cons_zero, List.set_cons_succ])
  refine take_at 25 (v := ?vv22) rfl (by kernel_rfl) (by kernel_rfl) (by kernel_rfl) (fun _ _ _ h => h) (Or.inl ⟨by rfl, ?hy22⟩) (by assumption) ?rest22
  case hy22 => intro w hSw; (try dsimp only at hSw); go_simp; (try with_reducible rfl)
  (try simp only [Act.put, List.setIfInBounds_toArray, List.set_cons_zero, List.set_cons_succ])
  refine wpAnyH_done (by kernel_rfl) ?_ _
  go_wp2
  go_ret
  exact ⟨rfl, HB9.out⟩
end Go.Proofs.YtlggbicjgddnaaaDoor
