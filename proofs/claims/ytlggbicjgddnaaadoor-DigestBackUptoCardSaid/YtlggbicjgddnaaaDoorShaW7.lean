/- The walks of Sum, Len, and of a nil hash. -/
import Derived.Test.YtlggbicjgddnaaaDoorShaW6
import Derived.Test.YtlggbicjgddnaaaDoorRow8
namespace Go.Proofs.YtlggbicjgddnaaaDoor
set_option linter.unusedVariables false
open Go.RowKit Go.Lib

theorem size73 : (Tryd.prog.info? 83).map (·.size) = some 73 := by kernel_rfl

theorem swrite_nil (v : Value) (w : World) : Calls Tryd.prog 39 #[.pointer none, v] w fun e w' => e = .returned (.tuple #[]) ∧ w = w' := by
  go_enter Tryd.func39, Tryd.ntmps39
  go_wp2
  refine bodyPost_ret (results_none rfl _ _ _) rfl ⟨rfl, rfl⟩
set_option maxRecDepth 100000 in
theorem ssum_nil (w : World) : Calls Tryd.prog 40 #[.pointer none] w fun e w' => e = .returned (.agg (bcs (List.replicate 32 0))) ∧ Below w.heap.size w w' := by
  have hz1 : (Tryd.prog.info? 24).map (·.size) = some (bcs (List.replicate 32 0)).size := size32
  go_enter Tryd.func40, Tryd.ntmps40
  go_wp2_with (first
    | (refine wpList_build_is rfl 24 _ rfl (bcs (List.replicate 32 0)) ?_ ?_; kernel_rfl)
    | (refine wpList_store_row rfl 24 _ _ rfl w.heap.size _ rfl rfl 24 _ (heap_alloc_new _ _) hz1 rfl (bcs_one _) ?_))
  refine bodyPost_ret (Yw.results (Yw.row (l := List.replicate 32 0) (l' := List.replicate 32 0) (heap_alloc_new _ _)) rfl _ rfl _ Tryd.underlying24 rfl size32) rfl ⟨rfl, below_setRow ((Below.refl _ _).alloc (Nat.le_refl _) _) _ _ (Nat.le_refl _)⟩

/-- a new block that has been laid whole -/
theorem lay_hash {w w2 : World} {A : Obj} {old : Array Value} {s : St} {blk : List Int} {n : Nat} (h : ((w.alloc A).alloc (.cells old 83)).setRow (w.heap.size + 1) (hcs s blk n).toArray = w2) (hl : blk.length = 64) (hb : ∀ j, 0 ≤ blk.getD j 0 ∧ blk.getD j 0 < 256) : w2.heap.size = w.heap.size + 2 ∧ Hb w2 (w.heap.size + 1) s blk n ∧ Below w.heap.size w w2 ∧ w2.heap[w.heap.size]? = some A := by
  subst h
  refine ⟨by simp, ⟨hl, hb, setRow_heap _ _ _ _ _ _ (heap_alloc2_new _ _ _)⟩, below_setRow (((Below.refl _ _).alloc (Nat.le_refl _) _).alloc (by simp) _) _ _ (Nat.le_succ _), ?_⟩
  rw [setRow_other _ _ _ _ (by omega)]
  exact heap_alloc2_old _ _ _
theorem hcs_one (s : St) (blk : List Int) (n : Nat) : (hcs s blk n).toArray.all (·.oneCell') = true := all_oneCell_toArray (fun v hv => by
  simp only [hcs, List.mem_append, List.mem_map, List.mem_singleton] at hv
  rcases hv with ⟨x, _, rfl⟩ | ⟨x, _, rfl⟩ | rfl <;> rfl)
theorem grown_to_below {B b : Nat} {w w' : World} (h : w.grownBy w' (some b)) (hB : B ≤ b) (hs : B ≤ w.heap.size) : Below B w w' := (Below.refl B w).grown h hs (fun k hk => by cases hk; exact hB)

/-- a digest, as far as it has been written -/
def dl (S : St) (m : Nat) : List Int := (dig S).take m ++ List.replicate (32 - m) 0
theorem dig_length (S : St) : (dig S).length = 32 := rfl
theorem dl_length (S : St) (m : Nat) (h : m ≤ 32) : (dl S m).length = 32 := by simp [dl, dig_length]; omega
theorem dl_set (S : St) (m : Nat) (h : m < 32) : (dl S m).set m ((dig S).getD m 0) = dl S (m + 1) := by
  unfold dl
  have hl := dig_length S
  obtain ⟨j, hj⟩ : ∃ j, 32 - m = j + 1 := ⟨31 - m, by omega⟩
  rw [hj, List.set_append_right _ _ (by simp; omega), List.length_take, hl, show m - min m 32 = 0 by omega, List.replicate_succ, List.set_cons_zero, show 32 - (m + 1) = j by omega,
    List.take_succ_eq_append_getElem (by omega), List.append_assoc, List.getD_eq_getElem?_getD, List.getElem?_eq_getElem (by omega)]
  rfl
theorem dl_end (S : St) : dl S 32 = dig S := by
  unfold dl
  rw [List.take_of_length_le (by rw [dig_length]; omega)]
  simp
theorem dig_get (S : St) (k j : Nat) (hk : k < 8) (hj : j < 4) : (dig S).getD (4 * k + j) 0 = ((S.list.getD k 0 / 2 ^ (8 * (3 - j)) % 256 : Nat) : Int) := by
  match k, hk, j, hj with
  | 0, _, 0, _ | 0, _, 1, _ | 0, _, 2, _ | 0, _, 3, _ | 1, _, 0, _ | 1, _, 1, _ | 1, _, 2, _ | 1, _, 3, _ | 2, _, 0, _ | 2, _, 1, _ | 2, _, 2, _ | 2, _, 3, _ | 3, _, 0, _ | 3, _, 1, _ | 3, _, 2, _ | 3, _, 3, _
  | 4, _, 0, _ | 4, _, 1, _ | 4, _, 2, _ | 4, _, 3, _ | 5, _, 0, _ | 5, _, 1, _ | 5, _, 2, _ | 5, _, 3, _ | 6, _, 0, _ | 6, _, 1, _ | 6, _, 2, _ | 6, _, 3, _ | 7, _, 0, _ | 7, _, 1, _ | 7, _, 2, _ | 7, _, 3, _ => rfl
theorem ix0 (S : St) (W : World) : (Instr.index 80 (.agg (List.map uv S.list).toArray) (.int .i64 ((0 : Nat) : Int))).run Tryd.prog W = .ok (.int .u32 ((S.list.getD 0 0 : Nat) : Int)) W := by kernel_rfl
theorem ix1 (S : St) (W : World) : (Instr.index 80 (.agg (List.map uv S.list).toArray) (.int .i64 ((1 : Nat) : Int))).run Tryd.prog W = .ok (.int .u32 ((S.list.getD 1 0 : Nat) : Int)) W := by kernel_rfl
theorem ix2 (S : St) (W : World) : (Instr.index 80 (.agg (List.map uv S.list).toArray) (.int .i64 ((2 : Nat) : Int))).run Tryd.prog W = .ok (.int .u32 ((S.list.getD 2 0 : Nat) : Int)) W := by kernel_rfl
theorem ix3 (S : St) (W : World) : (Instr.index 80 (.agg (List.map uv S.list).toArray) (.int .i64 ((3 : Nat) : Int))).run Tryd.prog W = .ok (.int .u32 ((S.list.getD 3 0 : Nat) : Int)) W := by kernel_rfl
theorem ix4 (S : St) (W : World) : (Instr.index 80 (.agg (List.map uv S.list).toArray) (.int .i64 ((4 : Nat) : Int))).run Tryd.prog W = .ok (.int .u32 ((S.list.getD 4 0 : Nat) : Int)) W := by kernel_rfl
theorem ix5 (S : St) (W : World) : (Instr.index 80 (.agg (List.map uv S.list).toArray) (.int .i64 ((5 : Nat) : Int))).run Tryd.prog W = .ok (.int .u32 ((S.list.getD 5 0 : Nat) : Int)) W := by kernel_rfl
theorem ix6 (S : St) (W : World) : (Instr.index 80 (.agg (List.map uv S.list).toArray) (.int .i64 ((6 : Nat) : Int))).run Tryd.prog W = .ok (.int .u32 ((S.list.getD 6 0 : Nat) : Int)) W := by kernel_rfl
theorem ix7 (S : St) (W : World) : (Instr.index 80 (.agg (List.map uv S.list).toArray) (.int .i64 ((7 : Nat) : Int))).run Tryd.prog W = .ok (.int .u32 ((S.list.getD 7 0 : Nat) : Int)) W := by kernel_rfl
theorem run_index_st (S : St) (k : Nat) (hk : k < 8) : ∀ W, (Instr.index 80 (.agg (List.map uv S.list).toArray) (.int .i64 (k : Int))).run Tryd.prog W = .ok (.int .u32 ((S.list.getD k 0 : Nat) : Int)) W := by
  intro W
  have h : k = 0 ∨ k = 1 ∨ k = 2 ∨ k = 3 ∨ k = 4 ∨ k = 5 ∨ k = 6 ∨ k = 7 := by omega
  clear hk
  rcases h with rfl | rfl | rfl | rfl | rfl | rfl | rfl | rfl
  · exact ix0 S W
  · exact ix1 S W
  · exact ix2 S W
  · exact ix3 S W
  · exact ix4 S W
  · exact ix5 S W
  · exact ix6 S W
  · exact ix7 S W
def sZ : St := ⟨0, 0, 0, 0, 0, 0, 0, 0⟩
theorem zeroHash (w : World) : (zeroValue 83).run Tryd.prog w = .ok (.agg (hcs sZ (List.replicate 64 0) 0).toArray) w := by kernel_rfl

set_option maxHeartbeats 1000000 in
set_option maxRecDepth 100000 in
theorem ssum_any (b : Nat) (zs : List Int) (w : World) (hH : Hw w b zs) (hK : Kw w) (hz : zs.length < 1152921504606846000) :
    Calls Tryd.prog 40 #[.pointer (some ⟨b, 0, none⟩)] w fun e w' => e = .returned (.agg (bcs (shaS zs))) ∧ Below w.heap.size w w' := by
  obtain ⟨blk, hHb, htk⟩ := hH
  obtain ⟨n, hn⟩ : ∃ n, zs.length = n := ⟨_, rfl⟩
  rw [hn] at hHb htk hz
  have HHb := Lib.hid hHb
  have HT := Lib.hid htk
  have HK := Lib.hid hK
  have HN := Lib.hid hn
  have HLT := Lib.hid hHb.lt
  have HPOS := Lib.hid hK.pos
  have HA1 := Lib.hid (hHb.later ((Below.refl w.heap.size w).alloc (Nat.le_refl _) (.cells (bcs (List.replicate 32 0)) 24)))
  have HZ : Hid ((Tryd.prog.info? 83).map (·.size) = some (hcs (runS kS hS zs (n / 64)) blk n).toArray.size) := Lib.hid (by simp only [List.size_toArray]; rw [hcs_length, hHb.1]; exact size73)
  have HZ2 : Hid ((hcs (runS kS hS zs (n / 64)) blk n).toArray.size = 73) := Lib.hid (by simp only [List.size_toArray]; rw [hcs_length, hHb.1])
  have hzv := zeroHash
  clear hHb htk hK hn
  go_enter Tryd.func40, Tryd.ntmps40
  go_wp2_with (first
    | (refine wpList_load_row rfl 83 _ rfl b rfl 83 _ (0, 0) _ HA1.out.2.2 Tryd.underlying83 rfl HZ.out ?_)
    | (refine wpList_store_row rfl 83 _ _ rfl (w.heap.size + 1) _ rfl rfl 83 _ (heap_alloc2_new _ _ _) HZ.out ?_ (hcs_one _ _ _) ?_; rw [HZ2.out]; rfl; generalize hw2 : World.setRow _ _ _ = w2; obtain ⟨hs2, hh2, hb2, hr2⟩ := lay_hash hw2 HHb.out.1 HHb.out.2.1; have HS2 := Lib.hid hs2; have HH2 := Lib.hid hh2; have HB2 := Lib.hid hb2; have HR2 := Lib.hid hr2; have hcl := (HHb.out.later hb2).len; clear hw2 hs2 hh2 hb2 hr2)
    | (go_at_call 52; fail))
  refine (spad_any n _ (by omega)).mono ?_
  rintro e w3 ⟨⟨c, rfl, hc1, hc2, hob⟩, hb3⟩
  obtain ⟨p3, c3, hv3, _, _, hbs3, _⟩ := hob.open
  have hpl : (padOf n).length = 9 + padZ n := by rw [← padL_end, padL_length n 8 (by omega)]
  rw [hpl] at hv3 hbs3
  simp only [Value.slice.injEq, true_and] at hv3
  obtain ⟨rfl, rfl⟩ := hv3
  have HC1 := Lib.hid hc1
  have HC2 := Lib.hid hc2
  have HBS3 := Lib.hid hbs3
  have HB3 := Lib.hid hb3
  have HPZ : Hid (padZ n < 64 ∧ (n + (9 + padZ n)) % 64 = 0) := Lib.hid (by unfold padZ; omega)
  have HPL := Lib.hid hpl
  clear hc1 hc2 hob hbs3 hb3 hcl hpl
  have H3 : Hid (Hw w3 (w.heap.size + 1) zs) := Lib.hid ⟨blk, by rw [HN.out]; exact HH2.out.later HB3.out, by rw [HN.out]; exact HT.out⟩
  have HK3 := Lib.hid ((HK.out.later HB2.out HPOS.out).later HB3.out (Nat.lt_of_lt_of_le HPOS.out HB2.out.size))
  go_wp2_with fail
  refine (swrite_any (w.heap.size + 1) (some ⟨w2.heap.size, 0, none⟩) (9 + padZ n) c (padOf n) zs _ H3.out HBS3.out HC1.out HC2.out (Or.inr (fun a ha => by cases ha; rw [HS2.out]; show w.heap.size + 2 ≠ w.heap.size + 1; omega)) HK3.out (by have := HPOS.out; omega) (by rw [HN.out]; have := HPZ.out; omega)).mono ?_
  rintro e w4 ⟨rfl, hH4, hG4⟩
  have hmsg : zs ++ padOf n = msg zs := by unfold msg; rw [HN.out]
  have hml : (msg zs).length = n + (9 + padZ n) := by rw [← hmsg, List.length_append, HN.out, HPL.out]
  rw [hmsg] at hH4
  obtain ⟨blk4, hHb4, _⟩ := hH4
  have HY4 : Hid (Yw w4 w.heap.size 24 (List.replicate 32 0)) := Lib.hid ((Yw.later (w := w2) (l := List.replicate 32 0) (t := 24) HR2.out HB3.out).keep (hG4.block _ (by have := HB3.out.size; have := HS2.out; omega) (by simp)))
  have HB4 : Hid (Below w.heap.size w w4) := Lib.hid ((below_step HB2.out HB3.out).trans (grown_to_below hG4 (Nat.le_succ _) (by have := HB3.out.size; have := HS2.out; omega)))
  have HSD : Hid (shaS zs = dig (runS kS hS (msg zs) ((msg zs).length / 64))) := Lib.hid rfl
  have HOK := Lib.hid (runS_ok hS_ok (msg zs) ((msg zs).length / 64) (ks := kS))
  generalize runS kS hS (msg zs) ((msg zs).length / 64) = S at *
  have HRG := Lib.hid hHb4.range
  have HM4 : Hid (w.heap.size + 2 ≤ w4.heap.size) := Lib.hid (by have := hG4.size; have := HB3.out.size; have := HS2.out; omega)
  clear hmsg hml hHb4 hG4 HK3 H3 HBS3 HC1 HC2 HS2 HH2 HB2 HR2 HB3 HHb HT HK HLT HA1 HZ HZ2 hzv
  go_wp2_with (refine wpList_load_mid rfl 80 _ rfl (w.heap.size + 1) 0 rfl _ _ (World.rangeAt_alloc HRG.out _) Tryd.underlying80 rfl size8w ?_)
  have HY5 : Hid (Yw (w4.alloc (.cells (bcs (List.replicate 32 0)) 24)) w4.heap.size 24 (List.replicate 32 0)) := Lib.hid (heap_alloc_new _ _)
  have HY5b := Lib.hid (HY4.out.later ((Below.refl _ _).alloc (Nat.le_refl _) (.cells (bcs (List.replicate 32 0)) 24)))
  have HB5 := Lib.hid (HB4.out.alloc HB4.out.size (.cells (bcs (List.replicate 32 0)) 24))
  generalize hM : w4.heap.size = M at *
  have hw5 : ∃ w5, w4.alloc (.cells (bcs (List.replicate 32 0)) 24) = w5 := ⟨_, rfl⟩
  obtain ⟨w5, hw5⟩ := hw5
  rw [hw5] at HY5 HY5b HB5
  change w4.alloc (.cells #[.int .u8 0, .int .u8 0, .int .u8 0, .int .u8 0, .int .u8 0, .int .u8 0, .int .u8 0, .int .u8 0, .int .u8 0, .int .u8 0, .int .u8 0, .int .u8 0, .int .u8 0, .int .u8 0, .int .u8 0, .int .u8 0, .int .u8 0, .int .u8 0, .int .u8 0, .int .u8 0, .int .u8 0, .int .u8 0, .int .u8 0, .int .u8 0, .int .u8 0, .int .u8 0, .int .u8 0, .int .u8 0, .int .u8 0, .int .u8 0, .int .u8 0, .int .u8 0] 24) = w5 at hw5
  rw [hw5]
  clear hw5 hM HY4 HB4 HRG
  go_loopw [5, 6, 7, 22] (fun _ _ _ i wr => ∃ k : Nat, k ≤ 8 ∧ i = .int .i64 k ∧ Hid (Yw wr M 24 (dl S (4 * k))) ∧ Hid (Yw wr w.heap.size 24 (List.replicate 32 0)) ∧ Hid (Below w.heap.size w wr)) (fun _ _ _ i _ => 8 - (intOf i).toNat)
  case atStart => exact ⟨0, by omega, rfl, HY5, HY5b, HB5⟩
  case round =>
    clear HY5 HY5b HB5
    obtain ⟨k, hk, rfl, hy, hr, hbl⟩ := hrel
    by_cases hlt : k < 8
    · have hix := run_index_st S k hlt
      have HDG := Lib.hid (fun j hj => dig_get S k j hlt hj)
      generalize S.list.getD k 0 = x at *
      obtain ⟨wo, rfl⟩ : ∃ wo : World, wo = wr := ⟨_, rfl⟩
      go_wp2
      go_loopw [7, 26] (fun _ i wr => ∃ j : Nat, j ≤ 4 ∧ i = .int .i64 j ∧ Hid (Yw wr M 24 (dl S (4 * k + j))) ∧ Hid (Yw wr w.heap.size 24 (List.replicate 32 0)) ∧ Hid (Below w.heap.size w wr)) (fun _ i _ => 4 - (intOf i).toNat)
      case atStart => exact ⟨0, by omega, rfl, hy, hr, hbl⟩
      case round =>
        clear hy hr hbl
        obtain ⟨j, hj, rfl, hy, hr, hbl⟩ := hrel
        by_cases hjlt : j < 4
        · have c := hy.out.cell (4 * k + j) (by rw [dl_length _ _ (by omega)]; omega)
          have f := hy.out.frozen (4 * k + j)
          go_wp2
          have hv : (x : Int) / 2 ^ (8 * (3 - j)) % 256 = ((x / 2 ^ (8 * (3 - j)) % 256 : Nat) : Int) := by
            rw [Int.natCast_emod, Int.natCast_ediv, Int.natCast_pow]
            rfl
          rw [hv]
          have h := hy.out.set (4 * k + j) ((x / 2 ^ (8 * (3 - j)) % 256 : Nat) : Int)
          rw [← HDG.out j hjlt, dl_set S (4 * k + j) (by omega), HDG.out j hjlt] at h
          exact ⟨⟨j + 1, by omega, by go_num, Lib.hid h, Lib.hid (hr.out.other _ _ (by have := HM4.out; show w.heap.size ≠ M; omega)), Lib.hid (hbl.out.setCell (p := ⟨M, 4 * k + j, none⟩) (by have := HM4.out; show w.heap.size ≤ M; omega) _)⟩, by simp [intOf]; omega⟩
        · obtain rfl : j = 4 := by omega
          go_wp2
          refine ⟨?_, by simp [intOf]; omega⟩
          first
            | exact ⟨k + 1, by omega, by go_num, hy, hr, hbl⟩
            | ((repeat apply Exists.intro); refine ⟨?rel, rfl⟩; exact ⟨k + 1, by omega, by go_num, hy, hr, hbl⟩)
    · obtain rfl : k = 8 := by omega
      have HZ1 : Hid ((Tryd.prog.info? 24).map (·.size) = some (bcs (dl S (4 * 8))).size) := Lib.hid (by rw [bcs_size, dl_length _ _ (by omega)]; exact size32)
      have HZ2 : Hid ((bcs (List.replicate 32 0)).size = (bcs (dl S (4 * 8))).size) := Lib.hid (by rw [bcs_size, bcs_size, dl_length _ _ (by omega), List.length_replicate])
      have HE : Hid (dl S (4 * 8) = shaS zs) := Lib.hid (by rw [HSD.out]; exact dl_end S)
      rw [HE.out] at hy HZ1 HZ2
      have HSL : Hid ((shaS zs).length = 32) := Lib.hid (by rw [HSD.out]; exact dig_length S)
      clear HE
      obtain ⟨d, hd⟩ : ∃ d, shaS zs = d := ⟨_, rfl⟩
      have HD := Lib.hid hd
      rw [hd] at hy HZ1 HZ2 HSL
      clear hd
      go_wp2_with (first
        | (refine wpList_load_row rfl 24 _ rfl M rfl 24 _ (0, 0) _ hy.out Tryd.underlying24 rfl HZ1.out ?_)
        | (refine wpList_store_row rfl 24 _ _ rfl w.heap.size _ rfl rfl 24 _ hr.out HZ1.out HZ2.out (bcs_one _) ?_))
      rw [HD.out]
      refine bodyPost_ret (Yw.results hr.out.row rfl _ rfl _ Tryd.underlying24 rfl (by rw [HSL.out]; exact size32)) rfl ⟨rfl, below_setRow hbl.out _ _ (Nat.le_refl _)⟩

theorem shaS_length (zs : List Int) : (shaS zs).length = 32 := dig_length _
theorem snew_at (w : World) (b : Nat) (hb : w.heap.size = b) :
    Calls Tryd.prog 38 #[] w fun e w' => e = .returned (.pointer (some ⟨b, 0, none⟩)) ∧ Hw w' b [] ∧ Below b w w' := by
  subst hb
  exact snew_any w

set_option maxRecDepth 100000 in
/-- Sum of package sha. -/
theorem ssha_any (p : Option Addr) (len cap : Nat) (zs : List Int) (w : World) (h : Bs w p len zs) (hc : len ≤ cap) (hm : cap ≤ maxLen) (hK : Kw w) (hz : len < 1152921504606846000) :
    Calls Tryd.prog 24 #[.slice p len cap] w fun e w' => e = .returned (.agg (bcs (shaS zs))) ∧ Below w.heap.size w w' := by
  have H := Lib.hid h
  have HC := Lib.hid hc
  have HM := Lib.hid hm
  have HP : Hid (Away p len (w.heap.size + 1)) := Lib.hid (h.away (Nat.le_succ _))
  have HK := Lib.hid hK
  have HPOS := Lib.hid hK.pos
  clear h hc hm hK
  go_enter Tryd.func24, Tryd.ntmps24
  go_wp2_with fail
  refine (snew_at _ (w.heap.size + 1) (by simp)).mono ?_
  rintro e w1 ⟨rfl, hH1, hb1⟩
  have HB1 : Hid (Below w.heap.size w w1) := Lib.hid (((Below.refl w.heap.size w).alloc (Nat.le_refl _) _).trans (hb1.mono (Nat.le_succ _)))
  have HY1 : Hid (Yw w1 w.heap.size 24 (List.replicate 32 0)) := Lib.hid ((hb1.block w.heap.size (Nat.lt_succ_self _)).trans (heap_alloc_new _ _))
  have HH1 := Lib.hid hH1
  clear hH1 hb1
  go_wp2_with fail
  refine (swrite_any (w.heap.size + 1) p len cap zs [] _ HH1.out (H.out.later HB1.out) HC.out HM.out HP.out (HK.out.later HB1.out HPOS.out) (by have := HPOS.out; omega) (by simp; omega)).mono ?_
  rintro e w2 ⟨rfl, hH2, hG2⟩
  rw [List.nil_append] at hH2
  have hlt : w.heap.size + 1 < w1.heap.size := by obtain ⟨blk, hh, _⟩ := HH1.out; exact hh.lt
  have HB2 : Hid (Below w.heap.size w w2) := Lib.hid (HB1.out.trans (grown_to_below hG2 (Nat.le_succ _) (by omega)))
  have HY2 := Lib.hid (HY1.out.keep (hG2.block _ (by omega) (by simp)))
  have HH2 := Lib.hid hH2
  clear hH2 hG2 hlt
  go_wp2_with fail
  refine (ssum_any (w.heap.size + 1) zs _ HH2.out (HK.out.later HB2.out HPOS.out) (by rw [H.out.len]; omega)).mono ?_
  rintro e w3 ⟨rfl, hb3⟩
  have HB3 := Lib.hid (below_step HB2.out hb3)
  have HY3 := Lib.hid (HY2.out.later hb3)
  have HL := Lib.hid (shaS_length zs)
  clear hb3
  have HZ1 : Hid ((Tryd.prog.info? 24).map (·.size) = some (bcs (shaS zs)).size) := Lib.hid (by rw [bcs_size, HL.out]; exact size32)
  have HZ2 : Hid ((bcs (List.replicate 32 0)).size = (bcs (shaS zs)).size) := Lib.hid (by rw [bcs_size, bcs_size, HL.out, List.length_replicate])
  go_wp2_with (refine wpList_store_row rfl 24 _ _ rfl w.heap.size _ rfl rfl 24 _ HY3.out HZ1.out HZ2.out (bcs_one _) ?_)
  refine bodyPost_ret (Yw.results HY3.out.row rfl _ rfl _ Tryd.underlying24 rfl (by rw [HL.out]; exact size32)) rfl ⟨rfl, below_setRow HB3.out _ _ (Nat.le_refl _)⟩
end Go.Proofs.YtlggbicjgddnaaaDoor
