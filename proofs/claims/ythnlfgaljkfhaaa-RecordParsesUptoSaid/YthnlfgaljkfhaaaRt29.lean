/- Layer 14, the program: a digest that is read -/
import Derived.Test.YthnlfgaljkfhaaaRt20
import Derived.Test.YthnlfgaljkfhaaaRt21
import Derived.Lib.SlBuf
set_option linter.unusedSimpArgs false
set_option linter.unusedVariables false
namespace Go.Proofs.Ythnlfgaljkfhaaa
set_option linter.unusedVariables false
open Go.RowKit Go.Lib

/-- a digest -/
def digN (zs : List Int) : List Int := if 32 ≤ zs.length then zs.take 32 else dzero
theorem digN_ok {zs : List Int} (h : Byt zs) : dok (digN zs) := by
  unfold digN
  split
  · exact ⟨by rw [List.length_take]; omega, h.take _⟩
  · exact dok_zero
def DiQ (S : World → Prop) (B : Nat) (W : World) (b : Nat) (zs : List Int) (x : Bool) (e : Ending) (W' : World) : Prop :=
  e = .returned (.agg (bcs (digN zs))) ∧ Po S B W b (leftN zs 32) (x || decide (zs.length < 32)) W'
theorem copy_dg_run (W : World) (t : TypeId) (g : Nat) (T : TypeId) (l : List Int) (dCap : Nat) (ad : Option Addr) (sCap : Nat) (ys : List Int) (hY : Yw W g T l) (hl : l.length = 32) (hbs : Bs W ad 32 ys) :
    (Builtin.copy_ #[25, 25] t #[.slice (some ⟨g, 0, none⟩) 32 dCap, .slice ad 32 sCap]).run Try.prog W = .ok (goInt 32) (W.setRow g (bcs ys)) := by
  obtain ⟨h1, h2, h3⟩ := hbs
  rcases h3 with h3 | ⟨c, co, hp, hc⟩
  · omega
  · subst hp
    have hlm : (ys.map (Value.int .u8)).length = 32 := by rw [List.length_map, h1]
    have h := run_copy_row (P := Try.prog) W 25 25 t 5 g 0 32 dCap ⟨c, co, none⟩ 32 sCap (bcs l) T (ys.map (Value.int .u8)) Try.underlying25 size8 hY hlm (by
      intro j u hj
      have hjm : j < 32 := by have := (List.getElem?_eq_some_iff.1 hj).1; omega
      rw [WideShapes.add_plain, hc j hjm, List.getD_eq_getElem?_getD]
      rw [List.getElem?_map] at hj
      rw [List.getElem?_eq_getElem (by omega)] at hj ⊢
      simpa using hj) (by rw [hlm, bcs_size, hl]; omega) (by
      intro u hu
      obtain ⟨z, _, rfl⟩ := List.mem_map.1 hu
      rfl)
    rw [hlm] at h
    rw [h]
    have e : ((bcs l).toList.take 0 ++ ys.map (Value.int .u8) ++ (bcs l).toList.drop (0 + 32)).toArray = bcs ys := by
      rw [List.drop_of_length_le (by rw [Array.length_toList, bcs_size, hl]; omega)]
      simp [bcs]
    rw [e]
    rfl
theorem copy_none_run (W : World) (t : TypeId) (g dCap : Nat) (ad : Option Addr) (sCap : Nat) : (Builtin.copy_ #[25, 25] t #[.slice (some ⟨g, 0, none⟩) 32 dCap, .slice ad 0 sCap]).run Try.prog W = .ok (goInt 0) W :=
  run_copy_none (P := Try.prog) W 25 25 t 5 (some ⟨g, 0, none⟩) ad 32 dCap 0 sCap Try.underlying25 size8 rfl
theorem Pa.later {S : World → Prop} {B : Nat} {W V : World} {b : Nat} {zs : List Int} {x : Bool} {q : Option Addr} {n c : Nat} (h : Pa S B W b zs x q n c) (hb : Below W.heap.size W V) : Pa S B V b zs x q n c :=
  ⟨row_later h.row hb, h.bs, h.pc, h.nc, h.cm, h.hn, h.lo, fun U hU => h.keep U ((hb.mono (Nat.le_trans h.lo (Nat.le_of_lt h.lt))).trans hU)⟩
theorem But.grown {b : Nat} {u v w : World} (hb : Below u.heap.size u v) (hbl : b ≤ u.heap.size) (k : But b v w) : But b u w := ⟨(hb.mono hbl).trans k.below, fun g h1 h2 => (k.same g h1 (Nat.lt_of_lt_of_le h2 hb.size)).trans (hb.block g h2)⟩
theorem But.row {b : Nat} {W V : World} (h : But b W V) (g : Nat) (cs : Array Value) (hg : W.heap.size ≤ g) (hb : b ≤ g) : But b W (V.setRow g cs) := ⟨below_setRow8 h.below g cs hb, fun k h1 h2 => (setRow_other V g k cs (by omega)).trans (h.same k h1 h2)⟩

set_option maxRecDepth 100000 in
set_option maxHeartbeats 1000000 in
theorem pdigest_any (S : World → Prop) (B b : Nat) (zs : List Int) (x : Bool) (q : Option Addr) (n c : Nat) (W : World) (h : Pa S B W b zs x q n c) :
    Calls Try.prog 48 #[.pointer (some ⟨b, 0, none⟩)] W fun e W' => DiQ S B W b zs x e W' := by
  have hlt := h.lt
  obtain ⟨wA, hA⟩ : ∃ V, (W.alloc (.cells (bcs dzero) 24)).alloc (.cells (bcs dzero) 24) = V := ⟨_, rfl⟩
  have HBA : Hid (Below W.heap.size W wA) := Lib.hid (by rw [← hA]; exact ((Below.refl _ _).alloc (Nat.le_refl _) _).alloc (by simp) _)
  have HY0 : Hid (Yw wA W.heap.size 24 dzero) := Lib.hid (by rw [← hA]; exact heap_alloc2_old _ _ _)
  have HY1 : Hid (Yw wA (W.heap.size + 1) 24 dzero) := Lib.hid (by rw [← hA]; exact heap_alloc2_new _ _ _)
  have HSA : Hid (W.heap.size + 1 < wA.heap.size) := Lib.hid (Array.getElem?_eq_some_iff.1 HY1.out).1
  have HPA := Lib.hid ((h.later HBA.out).later (Below.refl _ _).drew)
  have HT : Hid (Calls Try.prog 49 #[.pointer (some ⟨b, 0, none⟩), .int .i64 32] wA.drew fun e W' => TkQ S B wA.drew b zs x 32 e W') := Lib.hid (ptake_any S B b zs x q n c 32 wA.drew HPA.out (by omega))
  have HBY := Lib.hid h.byt
  have HKB := Lib.hid h.keep
  have HK : Hid (∀ V, Below b W V → S V) := Lib.hid fun V hV => h.keep V (hV.mono h.lo)
  have HLT := Lib.hid hlt
  have hDC : #[.int .u8 0, .int .u8 0, .int .u8 0, .int .u8 0, .int .u8 0, .int .u8 0, .int .u8 0, .int .u8 0, .int .u8 0, .int .u8 0, .int .u8 0, .int .u8 0, .int .u8 0, .int .u8 0, .int .u8 0, .int .u8 0, .int .u8 0, .int .u8 0, .int .u8 0, .int .u8 0, .int .u8 0, .int .u8 0, .int .u8 0, .int .u8 0, .int .u8 0, .int .u8 0, .int .u8 0, .int .u8 0, .int .u8 0, .int .u8 0, .int .u8 0, .int .u8 0] = bcs dzero := rfl
  rw [← hDC] at hA
  clear h hlt hDC
  unfold DiQ
  go_enter Try.func48, Try.ntmps48
  go_upto_region 2 with fail
  by_cases h32 : 32 ≤ zs.length
  · have HD : Hid (digN zs = zs.take 32) := Lib.hid (by rw [digN, if_pos h32])
    have HDL : Hid ((zs.take 32).length = 32) := Lib.hid (by rw [List.length_take]; omega)
    refine wp_region_held_drew (S := (fun _ => True)) (by kernel_rfl) trivial (fun hHeld => ?_)
    refine take_at 0 (v := ?vv1) rfl (by kernel_rfl) (by kernel_rfl) (by kernel_rfl) (fun _ _ _ h => h) (Or.inl ⟨by rfl, ?hy1⟩) (by assumption) ?rest1
    case hy1 => intro w hSw; (try dsimp only at hSw); go_simp; (try with_reducible rfl)
    (try simp only [Act.put, List.setIfInBounds_toArray, List.set_cons_zero, List.set_cons_succ])
    refine take_at 1 (v := ?vv2) rfl (by kernel_rfl) (by kernel_rfl) (by kernel_rfl) (fun _ _ _ h => h) (Or.inl ⟨by rfl, ?hy2⟩) (by assumption) ?rest2
    case hy2 => intro w hSw; (try dsimp only at hSw); go_simp; (try with_reducible rfl)
    (try simp only [Act.put, List.setIfInBounds_toArray, List.set_cons_zero, List.set_cons_succ])
    refine ready_at 2 rfl (by kernel_rfl) (fun K hK => ?_)
    go_simp
    refine HT.out.mono ?_
    rintro e W1 ⟨q1, n1, c1, rfl, hs1, ⟨q2, n2, c2, hp1⟩, hb1⟩
    have HP1 := Lib.hid hp1
    have HB1 := Lib.hid hb1
    have HZ0 : Hid (Yw W1 W.heap.size 24 dzero) := Lib.hid ((hb1.same W.heap.size (by have := HLT.out; omega) (by have := HSA.out; show W.heap.size < wA.heap.size; omega)).trans HY0.out)
    have HZ1 : Hid (Yw W1 (W.heap.size + 1) 24 dzero) := Lib.hid ((hb1.same (W.heap.size + 1) (by have := HLT.out; omega) (by have := HSA.out; show W.heap.size + 1 < wA.heap.size; omega)).trans HY1.out)
    have hbs := hs1.bs _ (HPA.out.keep _ (hb1.below.mono HPA.out.lo))
    obtain rfl : n1 = 32 := by rw [← hbs.len, gotN, if_pos h32, List.length_take]; omega
    rw [gotN, if_pos h32] at hbs
    have HBS := Lib.hid hbs
    clear hs1 hp1 hb1 hbs
    first
      | refine hK.out _ _ ?hS3 (fun hHeld => ?rest3)
      | (go_wp2_with fail; refine hK.out _ _ ?hS3 (fun hHeld => ?rest3))
    case hS3 => exact trivial
    clear hK K
    (try simp only [Act.put, List.setIfInBounds_toArray, List.set_cons_zero, List.set_cons_succ])
    refine ready_at 3 rfl (by kernel_rfl) (fun K hK => ?_)
    rw [if_pos (by rfl)]
    refine Lib.wp_copy_run _ _ _ _ _ rfl _ _ rfl rfl (copy_dg_run W1 _ (W.heap.size + 1) 24 dzero 32 q1 c1 (zs.take 32) HZ1.out rfl HBS.out) ?_
    obtain ⟨W2, hW2⟩ : ∃ V, W1.setRow (W.heap.size + 1) (bcs (zs.take 32)) = V := ⟨_, rfl⟩
    rw [hW2]
    have HW2 := Lib.hid hW2
    clear hW2
    refine hK.out _ _ ?hS4 (fun hHeld => ?rest4)
    case hS4 => exact trivial
    clear hK K
    (try simp only [Act.put, List.setIfInBounds_toArray, List.set_cons_zero, List.set_cons_succ])
    refine wpAnyH_done (by kernel_rfl) ?_ _
    have HV1 : Hid (Yw W2 (W.heap.size + 1) 24 (zs.take 32)) := Lib.hid (by rw [← HW2.out]; exact HZ1.out.row)
    have HV0 : Hid (Yw W2 W.heap.size 24 dzero) := Lib.hid ((keep_row HW2.out _ (by omega)).trans HZ0.out)
    have HBU : Hid (But b W W2) := Lib.hid (by rw [← HW2.out]; exact (But.grown HBA.out.drew (by have h1 := HLT.out; omega) HB1.out).row _ _ (by omega) (by have h1 := HLT.out; omega))
    have HRB : Hid (Pm W2 b q2 n2 c2 (x || decide (zs.length < 32))) := Lib.hid ((keep_row HW2.out _ (by have h1 := HLT.out; omega)).trans HP1.out.row)
    have HZA : Hid ((Try.prog.info? 24).map (·.size) = some (bcs (zs.take 32)).size) := Lib.hid (by rw [bcs_size, HDL.out]; exact size32)
    have HZB : Hid ((bcs dzero).size = (bcs (zs.take 32)).size) := Lib.hid (by first | (rw [bcs_size, bcs_size, HDL.out]; rfl) | rfl)
    have HZC : Hid ((Try.prog.info? 24).map (·.size) = some (zs.take 32).length) := Lib.hid (by rw [HDL.out]; exact size32)
    clear hA
    go_wp2_with (first
      | (refine wpList_load_row rfl 24 _ rfl (W.heap.size + 1) rfl 24 _ (0, 0) _ HV1.out Try.underlying24 rfl HZA.out ?_)
      | (refine wpList_store_row rfl 24 _ _ rfl W.heap.size _ rfl rfl 24 _ HV0.out HZA.out HZB.out (bcs_one _) ?_))
    refine bodyPost_ret (Yw.results HV0.out.row rfl _ rfl _ Try.underlying24 rfl HZC.out) rfl ?_
    have hrow := HBU.out.row W.heap.size (bcs (zs.take 32)) (Nat.le_refl _) (by have h1 := HLT.out; omega)
    refine ⟨by rw [HD.out], ⟨q2, n2, c2, ⟨?_, HP1.out.bs, HP1.out.pc, HP1.out.nc, HP1.out.cm, HP1.out.hn, HP1.out.lo, fun V hV => HKB.out V ((hrow.below.mono HP1.out.lo).trans hV)⟩⟩, hrow⟩
    show (W2.setRow W.heap.size (bcs (zs.take 32))).heap[b]? = _
    rw [setRow_other W2 W.heap.size b _ (by have h1 := HLT.out; omega)]
    exact HRB.out
  · have HD : Hid (digN zs = dzero) := Lib.hid (by rw [digN, if_neg h32])
    have HDL : Hid ((dzero).length = 32) := Lib.hid (by rfl)
    refine wp_region_held_drew (S := (fun _ => True)) (by kernel_rfl) trivial (fun hHeld => ?_)
    refine take_at 0 (v := ?vv5) rfl (by kernel_rfl) (by kernel_rfl) (by kernel_rfl) (fun _ _ _ h => h) (Or.inl ⟨by rfl, ?hy5⟩) (by assumption) ?rest5
    case hy5 => intro w hSw; (try dsimp only at hSw); go_simp; (try with_reducible rfl)
    (try simp only [Act.put, List.setIfInBounds_toArray, List.set_cons_zero, List.set_cons_succ])
    refine take_at 1 (v := ?vv6) rfl (by kernel_rfl) (by kernel_rfl) (by kernel_rfl) (fun _ _ _ h => h) (Or.inl ⟨by rfl, ?hy6⟩) (by assumption) ?rest6
    case hy6 => intro w hSw; (try dsimp only at hSw); go_simp; (try with_reducible rfl)
    (try simp only [Act.put, List.setIfInBounds_toArray, List.set_cons_zero, List.set_cons_succ])
    refine ready_at 2 rfl (by kernel_rfl) (fun K hK => ?_)
    go_simp
    refine HT.out.mono ?_
    rintro e W1 ⟨q1, n1, c1, rfl, hs1, ⟨q2, n2, c2, hp1⟩, hb1⟩
    have HP1 := Lib.hid hp1
    have HB1 := Lib.hid hb1
    have HZ0 : Hid (Yw W1 W.heap.size 24 dzero) := Lib.hid ((hb1.same W.heap.size (by have := HLT.out; omega) (by have := HSA.out; show W.heap.size < wA.heap.size; omega)).trans HY0.out)
    have HZ1 : Hid (Yw W1 (W.heap.size + 1) 24 dzero) := Lib.hid ((hb1.same (W.heap.size + 1) (by have := HLT.out; omega) (by have := HSA.out; show W.heap.size + 1 < wA.heap.size; omega)).trans HY1.out)
    have hbs := hs1.bs _ (HPA.out.keep _ (hb1.below.mono HPA.out.lo))
    obtain rfl : n1 = 0 := by rw [← hbs.len, gotN, if_neg h32]; rfl
    clear hs1 hp1 hb1 hbs
    first
      | refine hK.out _ _ ?hS7 (fun hHeld => ?rest7)
      | (go_wp2_with fail; refine hK.out _ _ ?hS7 (fun hHeld => ?rest7))
    case hS7 => exact trivial
    clear hK K
    (try simp only [Act.put, List.setIfInBounds_toArray, List.set_cons_zero, List.set_cons_succ])
    refine ready_at 3 rfl (by kernel_rfl) (fun K hK => ?_)
    rw [if_pos (by rfl)]
    refine Lib.wp_copy_run _ _ _ _ _ rfl _ _ rfl rfl (copy_none_run W1 _ (W.heap.size + 1) 32 q1 c1) ?_
    refine hK.out _ _ ?hS8 (fun hHeld => ?rest8)
    case hS8 => exact trivial
    clear hK K
    (try simp only [Act.put, List.setIfInBounds_toArray, List.set_cons_zero, List.set_cons_succ])
    refine wpAnyH_done (by kernel_rfl) ?_ _
    have HV1 := HZ1
    have HV0 := HZ0
    have HBU : Hid (But b W W1) := Lib.hid (But.grown HBA.out.drew (by have h1 := HLT.out; omega) HB1.out)
    have HRB : Hid (Pm W1 b q2 n2 c2 (x || decide (zs.length < 32))) := Lib.hid HP1.out.row
    have HZA : Hid ((Try.prog.info? 24).map (·.size) = some (bcs (dzero)).size) := Lib.hid (by rw [bcs_size, HDL.out]; exact size32)
    have HZB : Hid ((bcs dzero).size = (bcs (dzero)).size) := Lib.hid (by first | (rw [bcs_size, bcs_size, HDL.out]; rfl) | rfl)
    have HZC : Hid ((Try.prog.info? 24).map (·.size) = some (dzero).length) := Lib.hid (by rw [HDL.out]; exact size32)
    clear hA
    go_wp2_with (first
      | (refine wpList_load_row rfl 24 _ rfl (W.heap.size + 1) rfl 24 _ (0, 0) _ HV1.out Try.underlying24 rfl HZA.out ?_)
      | (refine wpList_store_row rfl 24 _ _ rfl W.heap.size _ rfl rfl 24 _ HV0.out HZA.out HZB.out (bcs_one _) ?_))
    refine bodyPost_ret (Yw.results HV0.out.row rfl _ rfl _ Try.underlying24 rfl HZC.out) rfl ?_
    have hrow := HBU.out.row W.heap.size (bcs (dzero)) (Nat.le_refl _) (by have h1 := HLT.out; omega)
    refine ⟨by rw [HD.out], ⟨q2, n2, c2, ⟨?_, HP1.out.bs, HP1.out.pc, HP1.out.nc, HP1.out.cm, HP1.out.hn, HP1.out.lo, fun V hV => HKB.out V ((hrow.below.mono HP1.out.lo).trans hV)⟩⟩, hrow⟩
    show (W1.setRow W.heap.size (bcs (dzero))).heap[b]? = _
    rw [setRow_other W1 W.heap.size b _ (by have h1 := HLT.out; omega)]
    exact HRB.out
end Go.Proofs.Ythnlfgaljkfhaaa
