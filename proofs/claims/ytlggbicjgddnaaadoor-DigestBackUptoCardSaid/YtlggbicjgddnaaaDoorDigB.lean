/- The walk of the statement DigestBack. -/
import Derived.Test.YtlggbicjgddnaaaDoorDigC
import Derived.Deep.Cut
namespace Go.Proofs.YtlggbicjgddnaaaDoor
set_option linter.unusedVariables false
open Go.RowKit Go.Lib

set_option maxRecDepth 100000 in
set_option maxHeartbeats 2000000 in
theorem digestback_walk (hOf : OfOk) (hText : TextOk) (hRead : ReadOk) (d : List Int) (s : ByteArray) (w : World) (hd : dok d) (hs : s.size ≤ 140737488355328) (hK : Kw w) :
    Calls Tryd.prog 6 #[.agg (bcs d), .string s] w fun e w' => e = .returned (.bool true) ∧ Below w.heap.size w w' := by
  have HOF := Lib.hid hOf
  have HTX := Lib.hid hText
  have HD := Lib.hid hd
  have HK := Lib.hid hK
  have HPOS := Lib.hid hK.pos
  have HB0 : Hid (Below w.heap.size w (w.alloc (.cells (bcs d) 24))) := Lib.hid ((Below.refl _ _).alloc (Nat.le_refl _) _)
  have HY0 : Hid (Yw (w.alloc (.cells (bcs d) 24)) w.heap.size 24 d) := Lib.hid (heap_alloc_new _ _)
  have hI : Hid ((Tryd.prog.info? 24).map (·.size) = some (d.map (Value.int .u8)).length) := Lib.hid (by rw [List.length_map, hd.1]; exact size32)
  have HRT := Lib.hid (fun W => hRead (strOfNums (dtext d)) W (by rw [dtext_size hd]; omega))
  rw [numsOf_strOfNums (dtext_byte hd), (drd_some (drd_dtext hd)).1, (drd_some (drd_dtext hd)).2] at HRT
  have HRS := Lib.hid (fun W => hRead s W hs)
  have HXK := Lib.hid (dans_ok (numsOf s))
  have HZD : Hid ((Tryd.prog.info? 24).map (·.size) = some (bcs d).size) := Lib.hid (by rw [bcs_size, hd.1]; exact size32)
  have HZ2 : Hid ((bcs dzero).size = (bcs d).size) := Lib.hid (by rw [bcs_size, bcs_size, hd.1]; rfl)
  have heq : ∀ W, (Op.equalIn 10000 24 (.agg (d.map (Value.int .u8)).toArray) (.agg (d.map (Value.int .u8)).toArray)).run Tryd.prog W = .ok true W := digest_refl d hd
  have HYES : Hid (∀ y, drd (numsOf s) = some y → strOfNums (dtext y) = s) := Lib.hid fun y h => by rw [dtext_drd h, strOfNums_numsOf]
  clear hd hK hOf hText hRead hs
  obtain ⟨x, hx⟩ : ∃ x, dans (numsOf s) = x := ⟨_, rfl⟩
  obtain ⟨E, hE⟩ : ∃ E, derr (numsOf s) = E := ⟨_, rfl⟩
  rw [hx] at HXK
  rw [hx, hE] at HRS
  have HXE := Lib.hid (And.intro hx hE)
  clear hx hE
  have hI2 : Hid ((Tryd.prog.info? 24).map (·.size) = some (x.map (Value.int .u8)).length) := Lib.hid (by rw [List.length_map, HXK.out.1]; exact size32)
  have HZX : Hid ((Tryd.prog.info? 24).map (·.size) = some (bcs x).size) := Lib.hid (by rw [bcs_size, HXK.out.1]; exact size32)
  have HZ3 : Hid ((bcs dzero).size = (bcs x).size) := Lib.hid (by rw [bcs_size, bcs_size, HXK.out.1]; rfl)
  go_enter Tryd.func6, Tryd.ntmps6
  go_wp2_with (refine wpList_wanted (by rfl) fun K hK => wp_load_mid 24 _ rfl w.heap.size 0 rfl _ _ HY0.out.rangeAll Tryd.underlying24 rfl hI.out (hK _ _ ?_); clear hK K)
  generalize w.alloc (.cells (bcs d) 24) = w0 at *
  refine (HTX.out d _ HD.out).mono ?_
  rintro e w1 ⟨rfl, hb1⟩
  have HB1 := Lib.hid (below_step HB0.out hb1)
  have HY1 := Lib.hid (HY0.out.later hb1)
  clear hb1 HB0 HY0
  generalize strOfNums (dtext d) = tx at *
  go_wp2_with fail
  refine (HRT.out _).mono ?_
  rintro e w2 ⟨rfl, hb2⟩
  have HB2 := Lib.hid (below_step HB1.out hb2)
  have HY2 := Lib.hid (HY1.out.later hb2)
  clear hb2 HB1 HY1
  go_upto_region 2 with (refine wpList_store_row rfl 24 _ _ rfl w2.heap.size _ rfl rfl 24 _ (heap_alloc_new _ _) HZD.out HZ2.out (bcs_one _) ?_; generalize hw3 : World.setRow _ _ _ = w3; have HL3 := Lib.hid (lay_dig hw3); clear hw3)
  have HB3 := Lib.hid (below_step HB2.out HL3.out.2)
  have HY3 := Lib.hid (HY2.out.later HL3.out.2)
  have HX3 := Lib.hid HL3.out.1
  clear HL3 HB2 HY2
  go_wp2_with fail
  refine (HRS.out _).mono ?_
  rintro e w4 ⟨rfl, hb4⟩
  have HB4 := Lib.hid (below_step HB3.out hb4)
  have HY4 := Lib.hid (HY3.out.later hb4)
  have HX4 := Lib.hid (HX3.out.later hb4)
  clear hb4 HB3 HY3 HX3
  go_upto_region 3 with (refine wpList_store_row rfl 24 _ _ rfl w4.heap.size _ rfl rfl 24 _ (heap_alloc_new _ _) HZX.out HZ3.out (bcs_one _) ?_; generalize hw5 : World.setRow _ _ _ = w5; have HL5 := Lib.hid (lay_dig hw5); clear hw5)
  have HB5 := Lib.hid (below_step HB4.out HL5.out.2)
  have HY5 := Lib.hid (HY4.out.later HL5.out.2)
  have HX5 := Lib.hid (HX4.out.later HL5.out.2)
  have HZ5 := Lib.hid HL5.out.1
  clear HL5 HB4 HY4 HX4
  cases hr : drd (numsOf s) with
  | none =>
    have HA := drd_none hr
    rw [HXE.out.1, HXE.out.2] at HA
    obtain ⟨rfl, rfl⟩ := HA
    have HDZ := Lib.hid (digest_refl dzero dok_zero)
    have heqz : ∀ W, (Op.equalIn 10000 24 (.agg (dzero.map (Value.int .u8)).toArray) (.agg #[.int .u8 0, .int .u8 0, .int .u8 0, .int .u8 0, .int .u8 0, .int .u8 0, .int .u8 0, .int .u8 0, .int .u8 0, .int .u8 0, .int .u8 0, .int .u8 0, .int .u8 0, .int .u8 0, .int .u8 0, .int .u8 0, .int .u8 0, .int .u8 0, .int .u8 0, .int .u8 0, .int .u8 0, .int .u8 0, .int .u8 0, .int .u8 0, .int .u8 0, .int .u8 0, .int .u8 0, .int .u8 0, .int .u8 0, .int .u8 0, .int .u8 0, .int .u8 0])).run Tryd.prog W = .ok true W := fun W => HDZ.out W
    clear hr
    go_wp2_with (first
      | (refine wpList_wanted (by rfl) fun K hK => wp_load_mid 24 _ rfl w2.heap.size 0 rfl _ _ HX5.out.rangeAll Tryd.underlying24 rfl hI.out (hK _ _ ?_); clear hK K)
      | (refine wpList_wanted (by rfl) fun K hK => wp_load_mid 24 _ rfl w.heap.size 0 rfl _ _ HY5.out.rangeAll Tryd.underlying24 rfl hI.out (hK _ _ ?_); clear hK K)
      | (refine wpList_wanted (by rfl) fun K hK => wp_load_mid 24 _ rfl w4.heap.size 0 rfl _ _ HZ5.out.rangeAll Tryd.underlying24 rfl hI2.out (hK _ _ ?_); clear hK K))
    refine (dlives_any HOF.out HTX.out _ (HK.out.later HB5.out HPOS.out)).mono ?_
    rintro e w7 ⟨rfl, hb7⟩
    have HB7 := Lib.hid (below_step HB5.out hb7)
    clear hb7
    go_wp2
    go_ret
    exact ⟨rfl, HB7.out⟩
  | some y =>
    have HA := drd_some hr
    rw [HXE.out.1, HXE.out.2] at HA
    obtain ⟨rfl, rfl⟩ := HA
    have HSS := Lib.hid (HYES.out _ hr)
    clear hr
    go_wp2_with (first
      | (refine wpList_wanted (by rfl) fun K hK => wp_load_mid 24 _ rfl w2.heap.size 0 rfl _ _ HX5.out.rangeAll Tryd.underlying24 rfl hI.out (hK _ _ ?_); clear hK K)
      | (refine wpList_wanted (by rfl) fun K hK => wp_load_mid 24 _ rfl w.heap.size 0 rfl _ _ HY5.out.rangeAll Tryd.underlying24 rfl hI.out (hK _ _ ?_); clear hK K)
      | (refine wpList_wanted (by rfl) fun K hK => wp_load_mid 24 _ rfl w4.heap.size 0 rfl _ _ HZ5.out.rangeAll Tryd.underlying24 rfl hI2.out (hK _ _ ?_); clear hK K))
    refine (HTX.out x _ HXK.out).mono ?_
    rintro e w6 ⟨rfl, hb6⟩
    have HB6 := Lib.hid (below_step HB5.out hb6)
    rw [HSS.out]
    clear hb6
    go_wp2_with fail
    refine (dlives_any HOF.out HTX.out _ (HK.out.later HB6.out HPOS.out)).mono ?_
    rintro e w7 ⟨rfl, hb7⟩
    have HB7 := Lib.hid (below_step HB6.out hb7)
    clear hb7
    go_wp2
    go_ret
    exact ⟨rfl, HB7.out⟩
end Go.Proofs.YtlggbicjgddnaaaDoor
