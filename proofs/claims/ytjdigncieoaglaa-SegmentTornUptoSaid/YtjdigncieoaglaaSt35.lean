/- Layer 14, the program: a digest that is read; Layer 14, the program: what is read, plainly; Layer 14, the program: read -/
import Derived.Test.YtjdigncieoaglaaSt25
import Derived.Test.YtjdigncieoaglaaSt34
import Derived.Lib.SlBuf
set_option linter.unusedSimpArgs false
set_option linter.unusedVariables false
namespace Go.Proofs.Ytjdigncieoaglaa
set_option linter.unusedVariables false
open Go.RowKit Go.Lib

/-- a digest -/
def digN (zs : List Int) : List Int := if 32 ≤ zs.length then zs.take 32 else dzero
theorem digN_ok {zs : List Int} (h : Byt zs) : dok (digN zs) := by
  unfold digN
  split
  · exact ⟨by rw [List.length_take]; omega, h.take _⟩
  · exact dok_zero
def DiQ (S : World → Prop) (B : Nat) (W : World) (b : Nat) (zs : List Int) (x : Bool) (e : Ending) (W' : World) : Prop :=
  e = .returned (.agg (bcs (digN zs))) ∧ Po S B W b (leftN zs 32) (x || decide (zs.length < 32)) W'
theorem copy_dg_run (W : World) (t : TypeId) (g : Nat) (T : TypeId) (l : List Int) (dCap : Nat) (ad : Option Addr) (sCap : Nat) (ys : List Int) (hY : Yw W g T l) (hl : l.length = 32) (hbs : Bs W ad 32 ys) :
    (Builtin.copy_ #[23, 23] t #[.slice (some ⟨g, 0, none⟩) 32 dCap, .slice ad 32 sCap]).run Try.prog W = .ok (goInt 32) (W.setRow g (bcs ys)) := by
  obtain ⟨h1, h2, h3⟩ := hbs
  rcases h3 with h3 | ⟨c, co, hp, hc⟩
  · omega
  · subst hp
    have hlm : (ys.map (Value.int .u8)).length = 32 := by rw [List.length_map, h1]
    have h := run_copy_row (P := Try.prog) W 23 23 t 5 g 0 32 dCap ⟨c, co, none⟩ 32 sCap (bcs l) T (ys.map (Value.int .u8)) Try.underlying23 size8 hY hlm (by
      intro j u hj
      have hjm : j < 32 := by have := (List.getElem?_eq_some_iff.1 hj).1; omega
      rw [WideShapes.add_plain, hc j hjm, List.getD_eq_getElem?_getD]
      rw [List.getElem?_map] at hj
      rw [List.getElem?_eq_getElem (by omega)] at hj ⊢
      simpa using hj) (by rw [hlm, bcs_size, hl]; omega) (by
      intro u hu
      obtain ⟨z, _, rfl⟩ := List.mem_map.1 hu
      rfl)
    rw [hlm] at h
    rw [h]
    have e : ((bcs l).toList.take 0 ++ ys.map (Value.int .u8) ++ (bcs l).toList.drop (0 + 32)).toArray = bcs ys := by
      rw [List.drop_of_length_le (by rw [Array.length_toList, bcs_size, hl]; omega)]
      simp [bcs]
    rw [e]
    rfl
theorem copy_none_run (W : World) (t : TypeId) (g dCap : Nat) (ad : Option Addr) (sCap : Nat) : (Builtin.copy_ #[23, 23] t #[.slice (some ⟨g, 0, none⟩) 32 dCap, .slice ad 0 sCap]).run Try.prog W = .ok (goInt 0) W :=
  run_copy_none (P := Try.prog) W 23 23 t 5 (some ⟨g, 0, none⟩) ad 32 dCap 0 sCap Try.underlying23 size8 rfl
theorem Pa.later {S : World → Prop} {B : Nat} {W V : World} {b : Nat} {zs : List Int} {x : Bool} {q : Option Addr} {n c : Nat} (h : Pa S B W b zs x q n c) (hb : Below W.heap.size W V) : Pa S B V b zs x q n c :=
  ⟨row_later h.row hb, h.bs, h.pc, h.nc, h.cm, h.hn, h.lo, fun U hU => h.keep U ((hb.mono (Nat.le_trans h.lo (Nat.le_of_lt h.lt))).trans hU)⟩
theorem But.grown {b : Nat} {u v w : World} (hb : Below u.heap.size u v) (hbl : b ≤ u.heap.size) (k : But b v w) : But b u w := ⟨(hb.mono hbl).trans k.below, fun g h1 h2 => (k.same g h1 (Nat.lt_of_lt_of_le h2 hb.size)).trans (hb.block g h2)⟩
theorem But.row {b : Nat} {W V : World} (h : But b W V) (g : Nat) (cs : Array Value) (hg : W.heap.size ≤ g) (hb : b ≤ g) : But b W (V.setRow g cs) := ⟨below_setRow8 h.below g cs hb, fun k h1 h2 => (setRow_other V g k cs (by omega)).trans (h.same k h1 h2)⟩

set_option maxRecDepth 100000 in
set_option maxHeartbeats 1000000 in
theorem pdigest_any (S : World → Prop) (B b : Nat) (zs : List Int) (x : Bool) (q : Option Addr) (n c : Nat) (W : World) (h : Pa S B W b zs x q n c) :
    Calls Try.prog 71 #[.pointer (some ⟨b, 0, none⟩)] W fun e W' => DiQ S B W b zs x e W' := by
  have hlt := h.lt
  obtain ⟨wA, hA⟩ : ∃ V, (W.alloc (.cells (bcs dzero) 27)).alloc (.cells (bcs dzero) 27) = V := ⟨_, rfl⟩
  have HBA : Hid (Below W.heap.size W wA) := Lib.hid (by rw [← hA]; exact ((Below.refl _ _).alloc (Nat.le_refl _) _).alloc (by simp) _)
  have HY0 : Hid (Yw wA W.heap.size 27 dzero) := Lib.hid (by rw [← hA]; exact heap_alloc2_old _ _ _)
  have HY1 : Hid (Yw wA (W.heap.size + 1) 27 dzero) := Lib.hid (by rw [← hA]; exact heap_alloc2_new _ _ _)
  have HSA : Hid (W.heap.size + 1 < wA.heap.size) := Lib.hid (Array.getElem?_eq_some_iff.1 HY1.out).1
  have HPA := Lib.hid ((h.later HBA.out).later (Below.refl _ _).drew)
  have HT : Hid (Calls Try.prog 72 #[.pointer (some ⟨b, 0, none⟩), .int .i64 32] wA.drew fun e W' => TkQ S B wA.drew b zs x 32 e W') := Lib.hid (ptake_any S B b zs x q n c 32 wA.drew HPA.out (by omega))
  have HBY := Lib.hid h.byt
  have HKB := Lib.hid h.keep
  have HK : Hid (∀ V, Below b W V → S V) := Lib.hid fun V hV => h.keep V (hV.mono h.lo)
  have HLT := Lib.hid hlt
  have hDC : #[.int .u8 0, .int .u8 0, .int .u8 0, .int .u8 0, .int .u8 0, .int .u8 0, .int .u8 0, .int .u8 0, .int .u8 0, .int .u8 0, .int .u8 0, .int .u8 0, .int .u8 0, .int .u8 0, .int .u8 0, .int .u8 0, .int .u8 0, .int .u8 0, .int .u8 0, .int .u8 0, .int .u8 0, .int .u8 0, .int .u8 0, .int .u8 0, .int .u8 0, .int .u8 0, .int .u8 0, .int .u8 0, .int .u8 0, .int .u8 0, .int .u8 0, .int .u8 0] = bcs dzero := rfl
  rw [← hDC] at hA
  clear h hlt hDC
  unfold DiQ
  go_enter Try.func71, Try.ntmps71
  go_upto_region 2 with fail
  by_cases h32 : 32 ≤ zs.length
  · have HD : Hid (digN zs = zs.take 32) := Lib.hid (by rw [digN, if_pos h32])
    have HDL : Hid ((zs.take 32).length = 32) := Lib.hid (by rw [List.length_take]; omega)
    refine wp_region_held_drew (S := (fun _ => True)) (by kernel_rfl) trivial (fun hHeld => ?_)
    refine take_at 0 (v := ?vv1) rfl (by kernel_rfl) (by kernel_rfl) (by kernel_rfl) (fun _ _ _ h => h) (Or.inl ⟨by rfl, ?hy1⟩) (by assumption) ?rest1
    case hy1 => intro w hSw; (try dsimp only at hSw); go_simp; (try with_reducible rfl)
    (try simp only [Act.put, List.setIfInBounds_toArray, List.set_cons_zero, List.set_cons_succ])
    refine take_at 1 (v := ?vv2) rfl (by kernel_rfl) (by kernel_rfl) (by kernel_rfl) (fun _ _ _ h => h) (Or.inl ⟨by rfl, ?hy2⟩) (by assumption) ?rest2
    case hy2 => intro w hSw; (try dsimp only at hSw); go_simp; (try with_reducible rfl)
    (try simp only [Act.put, List.setIfInBounds_toArray, List.set_cons_zero, List.set_cons_succ])
    refine ready_at 2 rfl (by kernel_rfl) (fun K hK => ?_)
    go_simp
    refine HT.out.mono ?_
    rintro e W1 ⟨q1, n1, c1, rfl, hs1, ⟨q2, n2, c2, hp1⟩, hb1⟩
    have HP1 := Lib.hid hp1
    have HB1 := Lib.hid hb1
    have HZ0 : Hid (Yw W1 W.heap.size 27 dzero) := Lib.hid ((hb1.same W.heap.size (by have := HLT.out; omega) (by have := HSA.out; show W.heap.size < wA.heap.size; omega)).trans HY0.out)
    have HZ1 : Hid (Yw W1 (W.heap.size + 1) 27 dzero) := Lib.hid ((hb1.same (W.heap.size + 1) (by have := HLT.out; omega) (by have := HSA.out; show W.heap.size + 1 < wA.heap.size; omega)).trans HY1.out)
    have hbs := hs1.bs _ (HPA.out.keep _ (hb1.below.mono HPA.out.lo))
    obtain rfl : n1 = 32 := by rw [← hbs.len, gotN, if_pos h32, List.length_take]; omega
    rw [gotN, if_pos h32] at hbs
    have HBS := Lib.hid hbs
    clear hs1 hp1 hb1 hbs
    first
      | refine hK.out _ _ ?hS3 (fun hHeld => ?rest3)
      | (go_wp2_with fail; refine hK.out _ _ ?hS3 (fun hHeld => ?rest3))
    case hS3 => exact trivial
    clear hK K
    (try simp only [Act.put, List.setIfInBounds_toArray, List.set_cons_zero, List.set_cons_succ])
    refine ready_at 3 rfl (by kernel_rfl) (fun K hK => ?_)
    rw [if_pos (by rfl)]
    refine Lib.wp_copy_run _ _ _ _ _ rfl _ _ rfl rfl (copy_dg_run W1 _ (W.heap.size + 1) 27 dzero 32 q1 c1 (zs.take 32) HZ1.out rfl HBS.out) ?_
    obtain ⟨W2, hW2⟩ : ∃ V, W1.setRow (W.heap.size + 1) (bcs (zs.take 32)) = V := ⟨_, rfl⟩
    rw [hW2]
    have HW2 := Lib.hid hW2
    clear hW2
    refine hK.out _ _ ?hS4 (fun hHeld => ?rest4)
    case hS4 => exact trivial
    clear hK K
    (try simp only [Act.put, List.setIfInBounds_toArray, List.set_cons_zero, List.set_cons_succ])
    refine wpAnyH_done (by kernel_rfl) ?_ _
    have HV1 : Hid (Yw W2 (W.heap.size + 1) 27 (zs.take 32)) := Lib.hid (by rw [← HW2.out]; exact HZ1.out.row)
    have HV0 : Hid (Yw W2 W.heap.size 27 dzero) := Lib.hid ((keep_row HW2.out _ (by omega)).trans HZ0.out)
    have HBU : Hid (But b W W2) := Lib.hid (by rw [← HW2.out]; exact (But.grown HBA.out.drew (by have h1 := HLT.out; omega) HB1.out).row _ _ (by omega) (by have h1 := HLT.out; omega))
    have HRB : Hid (Pm W2 b q2 n2 c2 (x || decide (zs.length < 32))) := Lib.hid ((keep_row HW2.out _ (by have h1 := HLT.out; omega)).trans HP1.out.row)
    have HZA : Hid ((Try.prog.info? 27).map (·.size) = some (bcs (zs.take 32)).size) := Lib.hid (by rw [bcs_size, HDL.out]; exact size32)
    have HZB : Hid ((bcs dzero).size = (bcs (zs.take 32)).size) := Lib.hid (by first | (rw [bcs_size, bcs_size, HDL.out]; rfl) | rfl)
    have HZC : Hid ((Try.prog.info? 27).map (·.size) = some (zs.take 32).length) := Lib.hid (by rw [HDL.out]; exact size32)
    clear hA
    go_wp2_with (first
      | (refine wpList_load_row rfl 27 _ rfl (W.heap.size + 1) rfl 27 _ (0, 0) _ HV1.out Try.underlying27 rfl HZA.out ?_)
      | (refine wpList_store_row rfl 27 _ _ rfl W.heap.size _ rfl rfl 27 _ HV0.out HZA.out HZB.out (bcs_one _) ?_))
    refine bodyPost_ret (Yw.results HV0.out.row rfl _ rfl _ Try.underlying27 rfl HZC.out) rfl ?_
    have hrow := HBU.out.row W.heap.size (bcs (zs.take 32)) (Nat.le_refl _) (by have h1 := HLT.out; omega)
    refine ⟨by rw [HD.out], ⟨q2, n2, c2, ⟨?_, HP1.out.bs, HP1.out.pc, HP1.out.nc, HP1.out.cm, HP1.out.hn, HP1.out.lo, fun V hV => HKB.out V ((hrow.below.mono HP1.out.lo).trans hV)⟩⟩, hrow⟩
    show (W2.setRow W.heap.size (bcs (zs.take 32))).heap[b]? = _
    rw [setRow_other W2 W.heap.size b _ (by have h1 := HLT.out; omega)]
    exact HRB.out
  · have HD : Hid (digN zs = dzero) := Lib.hid (by rw [digN, if_neg h32])
    have HDL : Hid ((dzero).length = 32) := Lib.hid (by rfl)
    refine wp_region_held_drew (S := (fun _ => True)) (by kernel_rfl) trivial (fun hHeld => ?_)
    refine take_at 0 (v := ?vv5) rfl (by kernel_rfl) (by kernel_rfl) (by kernel_rfl) (fun _ _ _ h => h) (Or.inl ⟨by rfl, ?hy5⟩) (by assumption) ?rest5
    case hy5 => intro w hSw; (try dsimp only at hSw); go_simp; (try with_reducible rfl)
    (try simp only [Act.put, List.setIfInBounds_toArray, List.set_cons_zero, List.set_cons_succ])
    refine take_at 1 (v := ?vv6) rfl (by kernel_rfl) (by kernel_rfl) (by kernel_rfl) (fun _ _ _ h => h) (Or.inl ⟨by rfl, ?hy6⟩) (by assumption) ?rest6
    case hy6 => intro w hSw; (try dsimp only at hSw); go_simp; (try with_reducible rfl)
    (try simp only [Act.put, List.setIfInBounds_toArray, List.set_cons_zero, List.set_cons_succ])
    refine ready_at 2 rfl (by kernel_rfl) (fun K hK => ?_)
    go_simp
    refine HT.out.mono ?_
    rintro e W1 ⟨q1, n1, c1, rfl, hs1, ⟨q2, n2, c2, hp1⟩, hb1⟩
    have HP1 := Lib.hid hp1
    have HB1 := Lib.hid hb1
    have HZ0 : Hid (Yw W1 W.heap.size 27 dzero) := Lib.hid ((hb1.same W.heap.size (by have := HLT.out; omega) (by have := HSA.out; show W.heap.size < wA.heap.size; omega)).trans HY0.out)
    have HZ1 : Hid (Yw W1 (W.heap.size + 1) 27 dzero) := Lib.hid ((hb1.same (W.heap.size + 1) (by have := HLT.out; omega) (by have := HSA.out; show W.heap.size + 1 < wA.heap.size; omega)).trans HY1.out)
    have hbs := hs1.bs _ (HPA.out.keep _ (hb1.below.mono HPA.out.lo))
    obtain rfl : n1 = 0 := by rw [← hbs.len, gotN, if_neg h32]; rfl
    clear hs1 hp1 hb1 hbs
    first
      | refine hK.out _ _ ?hS7 (fun hHeld => ?rest7)
      | (go_wp2_with fail; refine hK.out _ _ ?hS7 (fun hHeld => ?rest7))
    case hS7 => exact trivial
    clear hK K
    (try simp only [Act.put, List.setIfInBounds_toArray, List.set_cons_zero, List.set_cons_succ])
    refine ready_at 3 rfl (by kernel_rfl) (fun K hK => ?_)
    rw [if_pos (by rfl)]
    refine Lib.wp_copy_run _ _ _ _ _ rfl _ _ rfl rfl (copy_none_run W1 _ (W.heap.size + 1) 32 q1 c1) ?_
    refine hK.out _ _ ?hS8 (fun hHeld => ?rest8)
    case hS8 => exact trivial
    clear hK K
    (try simp only [Act.put, List.setIfInBounds_toArray, List.set_cons_zero, List.set_cons_succ])
    refine wpAnyH_done (by kernel_rfl) ?_ _
    have HV1 := HZ1
    have HV0 := HZ0
    have HBU : Hid (But b W W1) := Lib.hid (But.grown HBA.out.drew (by have h1 := HLT.out; omega) HB1.out)
    have HRB : Hid (Pm W1 b q2 n2 c2 (x || decide (zs.length < 32))) := Lib.hid HP1.out.row
    have HZA : Hid ((Try.prog.info? 27).map (·.size) = some (bcs (dzero)).size) := Lib.hid (by rw [bcs_size, HDL.out]; exact size32)
    have HZB : Hid ((bcs dzero).size = (bcs (dzero)).size) := Lib.hid (by first | (rw [bcs_size, bcs_size, HDL.out]; rfl) | rfl)
    have HZC : Hid ((Try.prog.info? 27).map (·.size) = some (dzero).length) := Lib.hid (by rw [HDL.out]; exact size32)
    clear hA
    go_wp2_with (first
      | (refine wpList_load_row rfl 27 _ rfl (W.heap.size + 1) rfl 27 _ (0, 0) _ HV1.out Try.underlying27 rfl HZA.out ?_)
      | (refine wpList_store_row rfl 27 _ _ rfl W.heap.size _ rfl rfl 27 _ HV0.out HZA.out HZB.out (bcs_one _) ?_))
    refine bodyPost_ret (Yw.results HV0.out.row rfl _ rfl _ Try.underlying27 rfl HZC.out) rfl ?_
    have hrow := HBU.out.row W.heap.size (bcs (dzero)) (Nat.le_refl _) (by have h1 := HLT.out; omega)
    refine ⟨by rw [HD.out], ⟨q2, n2, c2, ⟨?_, HP1.out.bs, HP1.out.pc, HP1.out.nc, HP1.out.cm, HP1.out.hn, HP1.out.lo, fun V hV => HKB.out V ((hrow.below.mono HP1.out.lo).trans hV)⟩⟩, hrow⟩
    show (W1.setRow W.heap.size (bcs (dzero))).heap[b]? = _
    rw [setRow_other W1 W.heap.size b _ (by have h1 := HLT.out; omega)]
    exact HRB.out
end Go.Proofs.Ytjdigncieoaglaa

namespace Go.Proofs.Ytjdigncieoaglaa
set_option linter.unusedVariables false
open Go.RowKit Go.Lib

/-- what data tells the program: a number of a header may come out any way -/
def readD (k : Int) (zs : List Int) : Option Rc :=
  if k = 7 then if zs.length ≠ 16 then none else if zs.take 8 ≠ magN then none else some ⟨7, 0, dg0, [], [], wrap64 (leN zs 8 8), 0⟩ else readN k zs
theorem wrap64_in {x : Int} (h0 : -9223372036854775808 ≤ x) (h1 : x ≤ 9223372036854775807) : wrap64 x = x := by simp only [wrap64]; omega
theorem readD_none {k : Int} {zs : List Int} : readD k zs = none ↔ readN k zs = none := by
  unfold readD
  split
  · rename_i h
    subst h
    have hN : readN 7 zs = if zs.length ≠ 16 then none else if zs.take 8 ≠ magN then none else some ⟨7, 0, dg0, [], [], if leN zs 8 8 < 4294967296 then leN zs 8 8 else 0, 0⟩ := by
      unfold readN
      rw [if_neg (by omega), if_neg (by omega), if_neg (by omega), if_neg (by omega), if_pos rfl]
    rw [hN]
    by_cases h1 : zs.length ≠ 16
    · rw [if_pos h1, if_pos h1]
    · rw [if_neg h1, if_neg h1]
      by_cases h2 : zs.take 8 ≠ magN
      · rw [if_pos h2, if_pos h2]
      · rw [if_neg h2, if_neg h2]
        simp
  · exact Iff.rfl
theorem readD_some {k : Int} {zs : List Int} (hb : Byt zs) {r : Rc} (h : readD k zs = some r) : ∃ r', readN k zs = some r' ∧ rightN r' = rightN r ∧ (rightN r = 0 → r' = r) := by
  unfold readD at h
  split at h
  · rename_i hk
    subst hk
    split at h
    · cases h
    rename_i h1
    split at h
    · cases h
    rename_i h2
    simp only [Option.some.injEq] at h
    subst h
    have hd := leN_bd zs hb 8 8
    have hN : readN 7 zs = some ⟨7, 0, dg0, [], [], if leN zs 8 8 < 4294967296 then leN zs 8 8 else 0, 0⟩ := by
      unfold readN
      rw [if_neg (by omega), if_neg (by omega), if_neg (by omega), if_neg (by omega), if_pos rfl, if_neg h1, if_neg h2]
    refine ⟨_, hN, ?_⟩
    generalize leN zs 8 8 = x at *
    have hx : 0 ≤ x ∧ x < 18446744073709551616 := by simpa using hd
    by_cases hs : x < 4294967296
    · rw [if_pos hs, wrap64_in (by omega) (by omega)]
      exact ⟨rfl, fun _ => rfl⟩
    · rw [if_neg hs]
      have e0 : rightN ⟨7, 0, dg0, [], [], 0, 0⟩ = 20 := by decide
      have e1 : rightN ⟨7, 0, dg0, [], [], wrap64 x, 0⟩ = 20 := by
        have : wrap64 x < 1 ∨ wrap64 x > 99999999 := by
          simp only [wrap64]
          omega
        unfold rightN
        simp
        omega
      rw [e0, e1]
      exact ⟨rfl, fun h => by omega⟩
  · exact ⟨r, h, rfl, fun _ => rfl⟩
/-- what is read, and whether it holds -/
def RdR (k : Int) (zs : List Int) (r : Rc) (ok : Bool) : Prop := (ok = true → readD k zs = some r) ∧ (ok = false → readD k zs = none)
theorem RdR.of {k : Int} {zs : List Int} {r : Rc} {ok : Bool} (P : Prop) [Decidable P] (ho : ok = decide P) (h1 : P → readD k zs = some r) (h2 : ¬ P → readD k zs = none) : RdR k zs r ok := by
  subst ho
  exact ⟨fun h => h1 (of_decide_eq_true h), fun h => h2 (of_decide_eq_false h)⟩
theorem leftN_length (zs : List Int) (m : Nat) : (leftN zs m).length = if m ≤ zs.length then zs.length - m else zs.length := by
  unfold leftN
  split <;> simp
theorem gotN_all (zs : List Int) : gotN zs zs.length = zs := by
  unfold gotN
  rw [if_pos (Nat.le_refl _), List.take_length]
theorem readD_ne {k : Int} (h : k ≠ 7) (zs : List Int) : readD k zs = readN k zs := by
  unfold readD
  rw [if_neg h]
theorem rd12 {k : Int} (hk : k = 1 ∨ k = 2) (zs : List Int) : RdR k zs ⟨k, 0, digN zs, [], leftN zs 32, 0, 0⟩ (!(false || decide (zs.length < 32))) := by
  refine RdR.of (32 ≤ zs.length) (by by_cases h : zs.length < 32 <;> simp [h] <;> omega) (fun h => ?_) fun h => ?_
  · rw [readD_ne (by omega), read12 hk, if_neg (by omega), digN, if_pos h, leftN, if_pos h]
  · rw [readD_ne (by omega), read12 hk, if_pos (by omega)]
theorem textB_iff (zs : List Int) (h0 : 0 ≤ zs.getD 0 0) : textB zs 0 = true ↔ 1 ≤ zs.length ∧ 0 ≤ zs.getD 0 0 ∧ 1 + zs.getD 0 0 ≤ zs.length := by
  have e : (0 : Int).toNat = 0 := rfl
  simp only [textB, takeB, isSizeB, holdsB, Bool.and_eq_true, decide_eq_true_eq, e]
  constructor
  · intro h; omega
  · intro h; omega
theorem rd3 (zs : List Int) (hb : Byt zs) : RdR 3 zs ⟨3, 0, digN (zs.drop (textE zs 0).toNat), textS zs 0, [], 0, 0⟩ (!((false || !textB zs 0) || decide ((zs.drop (textE zs 0).toNat).length < 32)) && decide (((leftN (zs.drop (textE zs 0).toNat) 32).length : Int) = 0)) := by
  have h0 := hb 0
  obtain ⟨m, hm⟩ := Int.eq_ofNat_of_zero_le h0.1
  refine RdR.of (textB zs 0 = true ∧ zs.length = 33 + m) ?_ (fun h => ?_) fun h => ?_
  · cases ht : textB zs 0
    · simp
    · have hi := (textB_iff zs h0.1).1 ht
      have he : (textE zs 0).toNat = 1 + m := by
        unfold textE
        rw [if_pos ht, show (0 : Int).toNat = 0 from rfl, hm]
        omega
      rw [he, leftN_length, List.length_drop, Bool.eq_iff_iff]
      rw [hm] at hi
      by_cases hl : zs.length - (1 + m) < 32
      · simp [hl]
        omega
      · rw [if_pos (by omega)]
        simp [hl]
        omega
  · obtain ⟨ht, hl⟩ := h
    have he : (textE zs 0).toNat = 1 + m := by
      unfold textE
      rw [if_pos ht, show (0 : Int).toNat = 0 from rfl, hm]
      omega
    rw [readD_ne (by omega), he]
    unfold readN
    rw [if_neg (by omega), if_pos rfl, if_neg (by omega), hm, Int.toNat_natCast, if_neg (by omega)]
    congr 2
    · unfold digN
      rw [if_pos (by rw [List.length_drop]; omega), List.take_of_length_le (by rw [List.length_drop]; omega)]
    · unfold textS
      rw [if_pos ht, show (0 : Int).toNat = 0 from rfl, hm, Int.toNat_natCast]
  · rw [readD_ne (by omega)]
    unfold readN
    rw [if_neg (by omega), if_pos rfl, hm, Int.toNat_natCast]
    by_cases h1 : zs.length < 1
    · rw [if_pos h1]
    · rw [if_neg h1, if_pos]
      intro hl
      exact h ⟨(textB_iff zs h0.1).2 (by rw [hm]; omega), hl⟩
theorem rd4 (zs : List Int) (hb : Byt zs) : RdR 4 zs ⟨4, 0, dg0, textS zs 0, [], 0, 0⟩ (!(false || !textB zs 0) && decide (((zs.drop (textE zs 0).toNat).length : Int) = 0)) := by
  have h0 := hb 0
  obtain ⟨m, hm⟩ := Int.eq_ofNat_of_zero_le h0.1
  refine RdR.of (textB zs 0 = true ∧ zs.length = 1 + m) ?_ (fun h => ?_) fun h => ?_
  · cases ht : textB zs 0
    · simp
    · have hi := (textB_iff zs h0.1).1 ht
      have he : (textE zs 0).toNat = 1 + m := by
        unfold textE
        rw [if_pos ht, show (0 : Int).toNat = 0 from rfl, hm]
        omega
      rw [he, List.length_drop, Bool.eq_iff_iff]
      rw [hm] at hi
      simp
      omega
  · obtain ⟨ht, hl⟩ := h
    rw [readD_ne (by omega)]
    unfold readN
    rw [if_neg (by omega), if_neg (by omega), if_pos rfl, if_neg (by omega), hm, Int.toNat_natCast, if_neg (by omega)]
    congr 2
    unfold textS
    rw [if_pos ht, show (0 : Int).toNat = 0 from rfl, hm, Int.toNat_natCast, List.take_of_length_le (by rw [List.length_drop]; omega)]
  · rw [readD_ne (by omega)]
    unfold readN
    rw [if_neg (by omega), if_neg (by omega), if_pos rfl, hm, Int.toNat_natCast]
    by_cases h1 : zs.length < 1
    · rw [if_pos h1]
    · rw [if_neg h1, if_pos]
      intro hl
      exact h ⟨(textB_iff zs h0.1).2 (by rw [hm]; omega), hl⟩
theorem rd5 (zs : List Int) : RdR 5 zs ⟨5, 0, digN zs, [], [], 0, 0⟩ (!(false || decide (zs.length < 32)) && decide (((leftN zs 32).length : Int) = 0)) := by
  refine RdR.of (zs.length = 32) ?_ (fun h => ?_) fun h => ?_
  · rw [leftN_length, Bool.eq_iff_iff]
    by_cases hl : zs.length < 32
    · simp [hl]
      omega
    · rw [if_pos (by omega)]
      simp [hl]
      omega
  · rw [readD_ne (by omega)]
    unfold readN digN
    rw [if_neg (by omega), if_neg (by omega), if_neg (by omega), if_pos rfl, if_neg (by omega), if_pos (by omega), List.take_of_length_le (by omega)]
  · rw [readD_ne (by omega)]
    unfold readN
    rw [if_neg (by omega), if_neg (by omega), if_neg (by omega), if_pos rfl, if_pos h]
theorem numN_in {zs : List Int} (hb : Byt zs) {m : Nat} (h1 : 1 ≤ m) (h8 : m ≤ 8) (h : m ≤ zs.length) : numN zs m = wrap64 (leN zs 0 m) := by
  unfold numN
  have e := takeN_n (gotN zs m) 0 m h1 h8 (by unfold gotN; rw [if_pos h, List.length_take]; omega)
  rw [show ((0 : Nat) : Int) = 0 from rfl] at e
  rw [e, gotN, if_pos h, leN_take _ _ _ _ (by omega)]
theorem numN4 {zs : List Int} (hb : Byt zs) (h : 4 ≤ zs.length) : numN zs 4 = leN zs 0 4 := by
  rw [numN_in hb (by omega) (by omega) h]
  have := leN_bd zs hb 0 4
  exact wrap64_in (by omega) (by omega)
theorem rd68 {k : Int} (hk : k = 6 ∨ k = 8) (zs : List Int) (hb : Byt zs) : RdR k zs ⟨k, 0, dg0, [], [], numN zs 4, numN (leftN zs 4) 4⟩ (!((false || decide (zs.length < 4)) || decide ((leftN zs 4).length < 4)) && decide (((leftN (leftN zs 4) 4).length : Int) = 0)) := by
  have l1 := leftN_length zs 4
  have l2 := leftN_length (leftN zs 4) 4
  rw [l1] at l2
  refine RdR.of (zs.length = 8) ?_ (fun h => ?_) fun h => ?_
  · rw [l2, l1, Bool.eq_iff_iff]
    by_cases hl : zs.length < 4
    · simp [hl]
      omega
    · rw [if_pos (by omega)]
      by_cases hm : zs.length - 4 < 4
      · simp [hl, hm]
        omega
      · rw [if_pos (by omega)]
        simp [hl, hm]
        omega
  · have e : leftN zs 4 = zs.drop 4 := by unfold leftN; rw [if_pos (by omega)]
    rw [readD_ne (by omega), numN4 hb (by omega), e, numN4 (hb.drop 4) (by rw [List.length_drop]; omega), leN_drop]
    unfold readN
    rw [if_neg (by omega), if_neg (by omega), if_neg (by omega), if_neg (by omega), if_neg (by omega), if_neg (by omega)]
  · rw [readD_ne (by omega)]
    unfold readN
    rw [if_neg (by omega), if_neg (by omega), if_neg (by omega), if_neg (by omega), if_neg (by omega), if_pos h]
theorem rd7 (zs : List Int) (hb : Byt zs) : RdR 7 zs ⟨7, 0, dg0, [], [], numN (leftN zs 8) 8, 0⟩ (!(((false || decide (zs.length < 8)) || decide (gotN zs 8 ≠ magN)) || decide ((leftN zs 8).length < 8)) && decide (((leftN (leftN zs 8) 8).length : Int) = 0)) := by
  have l1 := leftN_length zs 8
  have l2 := leftN_length (leftN zs 8) 8
  rw [l1] at l2
  refine RdR.of (zs.length = 16 ∧ zs.take 8 = magN) ?_ (fun h => ?_) fun h => ?_
  · rw [l2, l1, Bool.eq_iff_iff]
    by_cases hl : zs.length < 8
    · simp [hl]
      omega
    · rw [if_pos (by omega), gotN, if_pos (by omega)]
      by_cases hm : zs.length - 8 < 8
      · simp [hl, hm]
        omega
      · rw [if_pos (by omega)]
        by_cases hg : zs.take 8 = magN
        · simp [hl, hm, hg]
          omega
        · simp [hg]
  · have e : leftN zs 8 = zs.drop 8 := by unfold leftN; rw [if_pos (by omega)]
    rw [e, numN_in (hb.drop 8) (by omega) (by omega) (by rw [List.length_drop]; omega), leN_drop]
    unfold readD
    rw [if_pos rfl, if_neg (by omega), if_neg (fun hh => hh h.2)]
  · unfold readD
    rw [if_pos rfl]
    by_cases hl : zs.length = 16
    · rw [if_neg (by omega), if_pos (fun hh => h ⟨hl, hh⟩)]
    · rw [if_pos hl]
theorem numN_bd (zs : List Int) (m : Nat) : -9223372036854775808 ≤ numN zs m ∧ numN zs m ≤ 9223372036854775807 := by
  unfold numN
  simp only [wrap64]
  omega
theorem textS_byt {zs : List Int} (hb : Byt zs) (a : Int) : Byt (textS zs a) := by
  unfold textS
  split
  · exact (hb.drop _).take _
  · exact Byt.nil
theorem strOf_size {zs : List Int} (hb : Byt zs) (a : Int) : (strOfNums (textS zs a)).size ≤ zs.length := by
  rw [← numsOf_length, numsOf_strOfNums (textS_byt hb a)]
  unfold textS
  split
  · rw [List.length_take, List.length_drop]; omega
  · simp
end Go.Proofs.Ytjdigncieoaglaa

namespace Go.Proofs.Ytjdigncieoaglaa
set_option linter.unusedVariables false
open Go.RowKit Go.Lib

def RdW (w : World) (k : Int) (zs : List Int) (p : Option Addr) (n : Nat) (e : Ending) (w' : World) : Prop :=
  ∃ (x : Rq) (ok : Bool), e = .returned (.tuple #[x.v, .bool ok]) ∧ x.Fit w' ∧ RdR k zs x.rc ok ∧ Below w.heap.size w w' ∧ (∀ V, Bs V p n zs → Bs V x.p x.n x.da)
theorem RdW.of {w w' : World} {k : Int} {zs : List Int} {p : Option Addr} {n : Nat} (x : Rq) (ok : Bool) (hf : x.Fit w') (hr : RdR k zs x.rc ok) (hb : Below w.heap.size w w') (hs : ∀ V, Bs V p n zs → Bs V x.p x.n x.da) : RdW w k zs p n (.returned (.tuple #[x.v, .bool ok])) w' := ⟨x, ok, rfl, hf, hr, hb, hs⟩
theorem Rd.but {w W W' : World} {g h b : Nat} {y x : Rq} (r : Rd w W g h y x) (hb : But b W W') (hg : g ≠ b) (hh : h ≠ b) (hl : w.heap.size ≤ b) : Rd w W' g h y x :=
  ⟨r.ne, r.lo, r.lo', Mx.keep r.out (hb.same g hg (Mx.lt r.out)), Mx.keep r.own (hb.same h hh (Mx.lt r.own)), r.le.trans (hb.below.mono hl), r.dy, r.dx⟩
theorem Pa.cell {S : World → Prop} {B : Nat} {W V : World} {b g j : Nat} {v : Value} {zs : List Int} {x : Bool} {q : Option Addr} {n c : Nat} (h : Pa S B W b zs x q n c) (hV : W.setCell ⟨g, j, none⟩ v = V) (hb : b ≠ g) (hB : B ≤ g) : Pa S B V b zs x q n c :=
  ⟨(keep_cell hV b hb).trans h.row, h.bs, h.pc, h.nc, h.cm, h.hn, h.lo, fun U hU => h.keep U (by rw [← hV] at hU; exact ((Below.refl _ _).setCell (p := ⟨g, j, none⟩) hB v).trans hU)⟩
theorem Pa.cells {S : World → Prop} {B : Nat} {W V : World} {b g j : Nat} {vs : List Value} {zs : List Int} {x : Bool} {q : Option Addr} {n c : Nat} (h : Pa S B W b zs x q n c) (hV : W.setCells g j vs = V) (hb : b ≠ g) (hB : B ≤ g) : Pa S B V b zs x q n c :=
  ⟨(keep_cells hV b hb).trans h.row, h.bs, h.pc, h.nc, h.cm, h.hn, h.lo, fun U hU => h.keep U (by rw [← hV] at hU; exact (below_setCells hB _ _ _ (Below.refl _ _)).trans hU)⟩

theorem rd12b {k : Int} (hk : k = 1 ∨ k = 2) (zs : List Int) : RdR k zs ⟨k, 0, digN zs, [], leftN zs 32, 0, 0⟩ (!((false || decide (zs.length < 32)) || decide ((leftN zs 32).length < (leftN zs 32).length)) && decide (((leftN (leftN zs 32) (leftN zs 32).length).length : Int) = 0)) := by
  have h := rd12 hk zs
  have e : (!((false || decide (zs.length < 32)) || decide ((leftN zs 32).length < (leftN zs 32).length)) && decide (((leftN (leftN zs 32) (leftN zs 32).length).length : Int) = 0)) = !(false || decide (zs.length < 32)) := by
    rw [leftN_length (leftN zs 32) (leftN zs 32).length]
    simp
  rw [e]
  exact h
set_option maxRecDepth 100000 in
set_option maxHeartbeats 8000000 in
theorem cread_any (k : Int) (p : Option Addr) (n c : Nat) (zs : List Int) (w : World) (hk : 1 ≤ k ∧ k ≤ 8) (h : Bs w p n zs) (hpc : p = none → c = 0) (hnc : n ≤ c) (hcm : c ≤ maxLen) (hn : n ≤ 2097216) :
    Calls Try.prog 53 #[.int .i64 k, .slice p n c] w fun e w' => RdW w k zs p n e w' := by
  have H := Lib.hid h
  have HPC := Lib.hid hpc
  have HNC := Lib.hid hnc
  have HCM := Lib.hid hcm
  have HBY := Lib.hid (show Byt zs from h.byte)
  have HK := Lib.hid hk
  clear h hpc hnc hcm
  go_enter Try.func53, Try.ntmps53
  go_upto_region 2 with (first
    | (refine wpList_build_is rfl 29 _ rfl (mixC (rqK k).a (rqK k).dg (rqK k).z) ?_ ?_; kernel_rfl)
    | (refine wpList_store_row rfl 29 _ _ rfl (w.heap.size + 1) _ rfl rfl 29 _ (heap_alloc2_new _ _ _) ((rqK k).sizeOf rfl) (Rq.sizes rq0 (rqK k) rfl rfl) (rqK k).one ?_; generalize hwS : World.setRow _ _ _ = wS))
  obtain ⟨b, hb⟩ : ∃ b, wS.heap.size = b := ⟨_, rfl⟩
  obtain ⟨wP, hP⟩ : ∃ W, wS.alloc (.cells #[.slice p n c, .bool false] 117) = W := ⟨_, rfl⟩
  have HBV : Hid (b = w.heap.size + 1 + 1) := Lib.hid (by rw [← hb, ← hwS]; simp)
  have HRS : Hid (Rd w wS w.heap.size (w.heap.size + 1) rq0 (rqK k)) := Lib.hid (by rw [← hwS]; exact (Rd.start w).put (rqK k) rfl)
  have HR0 : Hid (Rd w wP w.heap.size (w.heap.size + 1) rq0 (rqK k)) := Lib.hid (by rw [← hP]; exact HRS.out.later ((Below.refl _ _).alloc (Nat.le_refl _) _))
  have HP0 : Hid (Pa (fun V => Bs V p n zs) w.heap.size wP b zs false p n c) := Lib.hid ⟨by rw [← hP, ← hb]; exact heap_alloc_new _ _, fun V hV => hV, HPC.out, HNC.out, HCM.out, hn, by have := HBV.out; omega, fun V hV => H.out.later (HR0.out.le.trans hV)⟩
  have HN0 : Hid (w.heap.size ≠ b ∧ w.heap.size + 1 ≠ b ∧ w.heap.size ≤ b) := Lib.hid (by have := HBV.out; omega)
  have HSV : Hid (∀ V, Below w.heap.size w V → Bs V p n zs) := Lib.hid fun V hV => H.out.later hV
  clear hwS
  have HWP := Lib.hid hP
  clear hP
  go_upto_region 3 with fail
  rw [HWP.out]
  clear hb
  rcases kinds (k := k) with h | h | rfl | rfl | rfl | rfl | rfl | rfl | rfl | rfl
  · omega
  · omega
  · have HDO := Lib.hid (digN_ok HBY.out)
    go_upto_region 21 with (first
      | (go_at_call 71; (fail_if_success (have hh := HP1)); refine (pdigest_any _ _ _ _ _ _ _ _ _ HP0.out).mono ?_; rintro e w1 ⟨rfl, ⟨q1, n1, c1, hp1⟩, hb1⟩; have HP1 := Lib.hid hp1; have HR1 := Lib.hid (HR0.out.but hb1 HN0.out.1 HN0.out.2.1 HN0.out.2.2); clear hp1 hb1)
      | (refine wpList_store_mid rfl 27 _ _ rfl (w.heap.size + 1) 2 _ rfl rfl (by rw [bcs_size, HDO.out.1]; exact Mx.there HR1.out.own 2 32 (by rw [HR1.out.dx]; simp [Rq.a, Rq.z])) (by rw [bcs_size, HDO.out.1]; exact size32) (bcs_one _) ?_; generalize hwD : World.setCells _ _ _ _ = w2; obtain ⟨X2, hX2⟩ : ∃ X, { rqK 1 with dg := digN zs } = X := ⟨_, rfl⟩; have HX2 := Lib.hid hX2; have HR2 : Hid (Rd w w2 w.heap.size (w.heap.size + 1) rq0 X2) := Lib.hid (by rw [← hwD, ← hX2]; exact HR1.out.setDg _ HDO.out.1); have HP2 := Lib.hid (HP1.out.cells hwD (fun hh => HN0.out.2.1 hh.symm) (Nat.le_succ _)); clear hwD hX2; have hl1 := HP1.out.len; subst hl1; have c0 := HP2.out.row.at.1)
      | (go_at_call 72; (fail_if_success (have hh := HP3)); refine (ptake_any _ _ _ _ _ _ _ _ _ _ HP2.out HP2.out.hn).mono ?_; rintro e w3 ⟨qd, nd, cd, rfl, hs, ⟨q3, n3, c3, hp3⟩, hb3⟩; have HP3 := Lib.hid hp3; have HR3 := Lib.hid (HR2.out.but hb3 HN0.out.1 HN0.out.2.1 HN0.out.2.2); clear hp3 hb3; have HSL := Lib.hid hs; have HND := Lib.hid (hs.bs _ (HSV.out _ HR3.out.le)).len; clear hs; have cl3 := (HR3.out.own.cells HR3.out.dx).2.2.2.1; have fr3 := HR3.out.own.frozen 35; obtain ⟨w4, hw4⟩ : ∃ W, w3.setCell ⟨w.heap.size + 1, 35, none⟩ (.slice qd nd cd) = W := ⟨_, rfl⟩; obtain ⟨X4, hX4⟩ : ∃ X, { X2 with p := qd, n := nd, c := cd, da := leftN zs 32 } = X := ⟨_, rfl⟩; have HX4 := Lib.hid hX4; have HR4 : Hid (Rd w w4 w.heap.size (w.heap.size + 1) rq0 X4) := Lib.hid (by rw [← hw4, ← hX4]; exact HR3.out.setDa _ _ _ _); have HP4 := Lib.hid (HP3.out.cell hw4 (fun hh => HN0.out.2.1 hh.symm) (Nat.le_succ _)); clear hX4)
      | fail)
    have HFT : Hid (∀ V, Below w.heap.size w V → X4.Fit V) := Lib.hid fun V hV => by rw [← HX4.out, ← HX2.out]; exact ⟨(by have h1 := HSL.out.bs V (HSV.out V hV); rw [gotN_all] at h1; exact h1), HSL.out.pc, HSL.out.nc, HSL.out.cm, HDO.out, (Nat.zero_le 140737488355328 : (0 : Nat) ≤ 140737488355328), u64_zero, by show _ ≤ (1 : Int) ∧ (1 : Int) ≤ _; omega, i64_zero, i64_zero⟩
    have HXR : Hid (X4.rc = ⟨1, 0, digN zs, [], leftN zs 32, 0, 0⟩) := Lib.hid (by rw [← HX4.out, ← HX2.out]; rfl)
    have HDA : Hid (∀ V, Bs V p n zs → Bs V X4.p X4.n X4.da) := Lib.hid fun V hV => by rw [← HX4.out, ← HX2.out]; exact (by have h1 := HSL.out.bs V hV; rw [gotN_all] at h1; exact h1)
    have HRR : Hid (RdR 1 zs X4.rc (!((false || decide (zs.length < 32)) || decide ((leftN zs 32).length < (leftN zs 32).length)) && decide (((leftN (leftN zs 32) (leftN zs 32).length).length : Int) = 0))) := Lib.hid (by rw [HXR.out]; exact rd12b (k := 1) (by omega) zs)
    have HLN := Lib.hid HP4.out.len
    rw [HLN.out] at HRR
    have HP := Lib.hid HP4.out.row
    have HR := HR4
    obtain ⟨xb, hxb⟩ : ∃ xb, ((false || decide (zs.length < 32)) || decide ((leftN zs 32).length < (leftN zs 32).length)) = xb := ⟨_, rfl⟩
    rw [hxb] at HRR HP
    obtain ⟨qf, hqf⟩ : ∃ y, q3 = y := ⟨_, rfl⟩
    obtain ⟨nf, hnf⟩ : ∃ y, n3 = y := ⟨_, rfl⟩
    obtain ⟨cf, hcf⟩ : ∃ y, c3 = y := ⟨_, rfl⟩
    rw [hnf] at HRR
    rw [hqf, hnf, hcf] at HP
    obtain ⟨W, hW⟩ : ∃ y, w4 = y := ⟨_, rfl⟩
    rw [hW] at HP HR ⊢
    clear hxb hqf hnf hcf
    have HXD := Lib.hid HR.out.dx
    have HLZ : Hid ((Try.prog.info? 29).map (·.size) = some (mixL X4.a X4.dg X4.z).length) := Lib.hid (by rw [mixL_length, HXD.out]; exact size38)
    have HMC := Lib.hid (show (mixL X4.a X4.dg X4.z).toArray = mixC X4.a X4.dg X4.z from rfl)
    have HRG : Hid (∀ W, Rm W (w.heap.size + 1) X4 → W.rangeAt (w.heap.size + 1) 0 (mixL X4.a X4.dg X4.z)) := Lib.hid fun W hW => Mx.range hW
    obtain ⟨L, hL⟩ : ∃ L, mixL X4.a X4.dg X4.z = L := ⟨_, rfl⟩
    rw [hL] at HLZ HMC HRG
    clear hL
    have HRD : Hid (Rd w W.drew w.heap.size (w.heap.size + 1) rq0 X4) := Lib.hid (HR.out.later (Below.refl _ _).drew)
    cases xb
    · have KA := Lib.hid (And.intro (HRG.out W HR.out.own) (And.intro HP.out.at.1 HP.out.at.2.1))
      refine wp_region_held_drew (S := (fun W => W.rangeAt (w.heap.size + 1) 0 L ∧ W.cell? ⟨b, 0, none⟩ = some (.slice qf nf cf) ∧ W.cell? ⟨b, 1, none⟩ = some (.bool false))) (by kernel_rfl) KA.out (fun hHeld => ?_)
      refine take_at 0 rfl (by kernel_rfl) (by kernel_rfl) (by kernel_rfl) (fun _ _ _ h => h) (yieldsIf_load_mid (by rfl) _ _ rfl _ _ rfl _ _ (fun _ h => h.1) Try.underlying29 rfl HLZ.out) (by assumption) ?_
      (try simp only [Act.put, List.setIfInBounds_toArray, List.set_cons_zero, List.set_cons_succ])
      refine take_at 1 (v := ?vv2) rfl (by kernel_rfl) (by kernel_rfl) (by kernel_rfl) (fun _ _ _ h => h) (Or.inl ⟨by rfl, ?hy2⟩) (by assumption) ?rest2
      case hy2 => intro w hSw; (try dsimp only at hSw); go_simp; (try with_reducible rfl)
      (try simp only [Act.put, List.setIfInBounds_toArray, List.set_cons_zero, List.set_cons_succ])
      refine take_at 2 (v := ?vv3) rfl (by kernel_rfl) (by kernel_rfl) (by kernel_rfl) (fun _ _ _ h => h) (Or.inl ⟨by rfl, ?hy3⟩) (by assumption) ?rest3
      case hy3 => intro w hSw; (try dsimp only at hSw); go_simp; (try with_reducible rfl)
      (try simp only [Act.put, List.setIfInBounds_toArray, List.set_cons_zero, List.set_cons_succ])
      refine take_at 3 (v := ?vv4) rfl (by kernel_rfl) (by kernel_rfl) (by kernel_rfl) (fun _ _ _ h => h) (Or.inl ⟨by rfl, ?hy4⟩) (by assumption) ?rest4
      case hy4 => intro w hSw; (try dsimp only at hSw); go_simp; (try with_reducible rfl)
      (try simp only [Act.put, List.setIfInBounds_toArray, List.set_cons_zero, List.set_cons_succ])
      refine take_at 4 (v := ?vv5) rfl (by kernel_rfl) (by kernel_rfl) (by kernel_rfl) (fun _ _ _ h => h) (Or.inl ⟨by rfl, ?hy5⟩) (by assumption) ?rest5
      case hy5 => intro w hSw; (try dsimp only at hSw); go_simp; (try with_reducible rfl)
      (try simp only [Act.put, List.setIfInBounds_toArray, List.set_cons_zero, List.set_cons_succ])
      refine take_at 5 (v := ?vv6) rfl (by kernel_rfl) (by kernel_rfl) (by kernel_rfl) (fun _ _ _ h => h) (Or.inl ⟨by rfl, ?hy6⟩) (by assumption) ?rest6
      case hy6 => intro w hSw; (try dsimp only at hSw); go_simp; (try with_reducible rfl)
      (try simp only [Act.put, List.setIfInBounds_toArray, List.set_cons_zero, List.set_cons_succ])
      refine take_at 6 (v := ?vv7) rfl (by kernel_rfl) (by kernel_rfl) (by kernel_rfl) (fun _ _ _ h => h) (Or.inl ⟨by rfl, ?hy7⟩) (by assumption) ?rest7
      case hy7 => intro w hSw; (try dsimp only at hSw); go_simp; (try with_reducible rfl)
      (try simp only [Act.put, List.setIfInBounds_toArray, List.set_cons_zero, List.set_cons_succ])
      refine take_at 7 (v := ?vv8) rfl (by kernel_rfl) (by kernel_rfl) (by kernel_rfl) (fun _ _ _ h => h) (Or.inl ⟨by rfl, ?hy8⟩) (by assumption) ?rest8
      case hy8 => intro w hSw; (try dsimp only at hSw); go_simp; (try with_reducible rfl)
      (try simp only [Act.put, List.setIfInBounds_toArray, List.set_cons_zero, List.set_cons_succ])
      refine take_at 8 (v := ?vv9) rfl (by kernel_rfl) (by kernel_rfl) (by kernel_rfl) (fun _ _ _ h => h) (Or.inl ⟨by rfl, ?hy9⟩) (by assumption) ?rest9
      case hy9 => intro w hSw; (try dsimp only at hSw); go_simp; (try with_reducible rfl)
      (try simp only [Act.put, List.setIfInBounds_toArray, List.set_cons_zero, List.set_cons_succ])
      refine take_at 9 (v := ?vv10) rfl (by kernel_rfl) (by kernel_rfl) (by kernel_rfl) (fun _ _ _ h => h) (Or.inl ⟨by rfl, ?hy10⟩) (by assumption) ?rest10
      case hy10 => intro w hSw; (try dsimp only at hSw); go_simp; (try with_reducible rfl)
      (try simp only [Act.put, List.setIfInBounds_toArray, List.set_cons_zero, List.set_cons_succ])
      refine ready_at 10 rfl (by kernel_rfl) (fun K hK => ?_)
      rw [if_pos (by rfl)]
      rw [HMC.out]
      refine wp_store_row 29 _ _ rfl w.heap.size _ rfl rfl 29 _ HRD.out.out (Rq.sizeOf X4 HXD.out) (Rq.sizes rq0 X4 rfl HXD.out) (Rq.one X4) ?_
      generalize hwZ : World.setRow _ _ _ = wZ
      have HZ : Hid (Rd w wZ w.heap.size (w.heap.size + 1) X4 X4) := Lib.hid (by rw [← hwZ]; exact HRD.out.ans X4 HXD.out)
      have HPZ : Hid (Pm wZ b qf nf cf false) := Lib.hid ((keep_row hwZ b HN0.out.1.symm).trans HP.out)
      have KB := Lib.hid (And.intro (HRG.out wZ HZ.out.own) (And.intro HPZ.out.at.1 HPZ.out.at.2.1))
      clear hwZ
      refine hK.out _ _ ?hS11 (fun hHeld => ?rest11)
      case hS11 => exact KB.out
      clear hK K
      (try simp only [Act.put, List.setIfInBounds_toArray, List.set_cons_zero, List.set_cons_succ])
      refine take_at 11 (v := ?vv12) rfl (by kernel_rfl) (by kernel_rfl) (by kernel_rfl) (fun _ _ _ h => h) (Or.inl ⟨by rfl, ?hy12⟩) (by assumption) ?rest12
      case hy12 => intro w hSw; (try dsimp only at hSw); go_simp; (try with_reducible rfl)
      (try simp only [Act.put, List.setIfInBounds_toArray, List.set_cons_zero, List.set_cons_succ])
      refine wpAnyH_done (by kernel_rfl) ?_ _
      go_wp2
      refine bodyPost_ret (HZ.out.out.res2 HZ.out.dy rfl _ rfl) rfl ?_
      exact RdW.of X4 _ (HFT.out _ HZ.out.le) HRR.out HZ.out.le HDA.out
    · have KA := Lib.hid (And.intro (HRG.out W HR.out.own) (And.intro HP.out.at.1 HP.out.at.2.1))
      refine wp_region_held_drew (S := (fun W => W.rangeAt (w.heap.size + 1) 0 L ∧ W.cell? ⟨b, 0, none⟩ = some (.slice qf nf cf) ∧ W.cell? ⟨b, 1, none⟩ = some (.bool true))) (by kernel_rfl) KA.out (fun hHeld => ?_)
      refine take_at 0 rfl (by kernel_rfl) (by kernel_rfl) (by kernel_rfl) (fun _ _ _ h => h) (yieldsIf_load_mid (by rfl) _ _ rfl _ _ rfl _ _ (fun _ h => h.1) Try.underlying29 rfl HLZ.out) (by assumption) ?_
      (try simp only [Act.put, List.setIfInBounds_toArray, List.set_cons_zero, List.set_cons_succ])
      refine take_at 1 (v := ?vv14) rfl (by kernel_rfl) (by kernel_rfl) (by kernel_rfl) (fun _ _ _ h => h) (Or.inl ⟨by rfl, ?hy14⟩) (by assumption) ?rest14
      case hy14 => intro w hSw; (try dsimp only at hSw); go_simp; (try with_reducible rfl)
      (try simp only [Act.put, List.setIfInBounds_toArray, List.set_cons_zero, List.set_cons_succ])
      refine take_at 2 (v := ?vv15) rfl (by kernel_rfl) (by kernel_rfl) (by kernel_rfl) (fun _ _ _ h => h) (Or.inl ⟨by rfl, ?hy15⟩) (by assumption) ?rest15
      case hy15 => intro w hSw; (try dsimp only at hSw); go_simp; (try with_reducible rfl)
      (try simp only [Act.put, List.setIfInBounds_toArray, List.set_cons_zero, List.set_cons_succ])
      refine take_at 3 (v := ?vv16) rfl (by kernel_rfl) (by kernel_rfl) (by kernel_rfl) (fun _ _ _ h => h) (Or.inl ⟨by rfl, ?hy16⟩) (by assumption) ?rest16
      case hy16 => intro w hSw; (try dsimp only at hSw); go_simp; (try with_reducible rfl)
      (try simp only [Act.put, List.setIfInBounds_toArray, List.set_cons_zero, List.set_cons_succ])
      refine take_at 4 (v := ?vv17) rfl (by kernel_rfl) (by kernel_rfl) (by kernel_rfl) (fun _ _ _ h => h) (Or.inl ⟨by rfl, ?hy17⟩) (by assumption) ?rest17
      case hy17 => intro w hSw; (try dsimp only at hSw); go_simp; (try with_reducible rfl)
      (try simp only [Act.put, List.setIfInBounds_toArray, List.set_cons_zero, List.set_cons_succ])
      refine take_at 5 (v := undef) rfl (by kernel_rfl) (by kernel_rfl) (by kernel_rfl) (fun _ _ _ h => h) (Or.inr ⟨by rfl, rfl⟩) (by assumption) ?_
      (try simp only [Act.put, List.setIfInBounds_toArray, List.set_cons_zero, List.set_cons_succ])
      refine take_at 6 (v := undef) rfl (by kernel_rfl) (by kernel_rfl) (by kernel_rfl) (fun _ _ _ h => h) (Or.inr ⟨by rfl, rfl⟩) (by assumption) ?_
      (try simp only [Act.put, List.setIfInBounds_toArray, List.set_cons_zero, List.set_cons_succ])
      refine take_at 7 (v := undef) rfl (by kernel_rfl) (by kernel_rfl) (by kernel_rfl) (fun _ _ _ h => h) (Or.inr ⟨by rfl, rfl⟩) (by assumption) ?_
      (try simp only [Act.put, List.setIfInBounds_toArray, List.set_cons_zero, List.set_cons_succ])
      refine take_at 8 (v := undef) rfl (by kernel_rfl) (by kernel_rfl) (by kernel_rfl) (fun _ _ _ h => h) (Or.inr ⟨by rfl, rfl⟩) (by assumption) ?_
      (try simp only [Act.put, List.setIfInBounds_toArray, List.set_cons_zero, List.set_cons_succ])
      refine take_at 9 (v := ?vv22) rfl (by kernel_rfl) (by kernel_rfl) (by kernel_rfl) (fun _ _ _ h => h) (Or.inl ⟨by rfl, ?hy22⟩) (by assumption) ?rest22
      case hy22 => intro w hSw; (try dsimp only at hSw); go_simp; (try with_reducible rfl)
      (try simp only [Act.put, List.setIfInBounds_toArray, List.set_cons_zero, List.set_cons_succ])
      refine ready_at 10 rfl (by kernel_rfl) (fun K hK => ?_)
      rw [if_pos (by rfl)]
      rw [HMC.out]
      refine wp_store_row 29 _ _ rfl w.heap.size _ rfl rfl 29 _ HRD.out.out (Rq.sizeOf X4 HXD.out) (Rq.sizes rq0 X4 rfl HXD.out) (Rq.one X4) ?_
      generalize hwZ : World.setRow _ _ _ = wZ
      have HZ : Hid (Rd w wZ w.heap.size (w.heap.size + 1) X4 X4) := Lib.hid (by rw [← hwZ]; exact HRD.out.ans X4 HXD.out)
      have HPZ : Hid (Pm wZ b qf nf cf true) := Lib.hid ((keep_row hwZ b HN0.out.1.symm).trans HP.out)
      have KB := Lib.hid (And.intro (HRG.out wZ HZ.out.own) (And.intro HPZ.out.at.1 HPZ.out.at.2.1))
      clear hwZ
      refine hK.out _ _ ?hS23 (fun hHeld => ?rest23)
      case hS23 => exact KB.out
      clear hK K
      (try simp only [Act.put, List.setIfInBounds_toArray, List.set_cons_zero, List.set_cons_succ])
      refine take_at 11 (v := ?vv24) rfl (by kernel_rfl) (by kernel_rfl) (by kernel_rfl) (fun _ _ _ h => h) (Or.inl ⟨by rfl, ?hy24⟩) (by assumption) ?rest24
      case hy24 => intro w hSw; (try dsimp only at hSw); go_simp; (try with_reducible rfl)
      (try simp only [Act.put, List.setIfInBounds_toArray, List.set_cons_zero, List.set_cons_succ])
      refine wpAnyH_done (by kernel_rfl) ?_ _
      go_wp2
      refine bodyPost_ret (HZ.out.out.res2 HZ.out.dy rfl _ rfl) rfl ?_
      exact RdW.of X4 _ (HFT.out _ HZ.out.le) HRR.out HZ.out.le HDA.out
  · have HDO := Lib.hid (digN_ok HBY.out)
    go_upto_region 21 with (first
      | (go_at_call 71; (fail_if_success (have hh := HP1)); refine (pdigest_any _ _ _ _ _ _ _ _ _ HP0.out).mono ?_; rintro e w1 ⟨rfl, ⟨q1, n1, c1, hp1⟩, hb1⟩; have HP1 := Lib.hid hp1; have HR1 := Lib.hid (HR0.out.but hb1 HN0.out.1 HN0.out.2.1 HN0.out.2.2); clear hp1 hb1)
      | (refine wpList_store_mid rfl 27 _ _ rfl (w.heap.size + 1) 2 _ rfl rfl (by rw [bcs_size, HDO.out.1]; exact Mx.there HR1.out.own 2 32 (by rw [HR1.out.dx]; simp [Rq.a, Rq.z])) (by rw [bcs_size, HDO.out.1]; exact size32) (bcs_one _) ?_; generalize hwD : World.setCells _ _ _ _ = w2; obtain ⟨X2, hX2⟩ : ∃ X, { rqK 2 with dg := digN zs } = X := ⟨_, rfl⟩; have HX2 := Lib.hid hX2; have HR2 : Hid (Rd w w2 w.heap.size (w.heap.size + 1) rq0 X2) := Lib.hid (by rw [← hwD, ← hX2]; exact HR1.out.setDg _ HDO.out.1); have HP2 := Lib.hid (HP1.out.cells hwD (fun hh => HN0.out.2.1 hh.symm) (Nat.le_succ _)); clear hwD hX2; have hl1 := HP1.out.len; subst hl1; have c0 := HP2.out.row.at.1)
      | (go_at_call 72; (fail_if_success (have hh := HP3)); refine (ptake_any _ _ _ _ _ _ _ _ _ _ HP2.out HP2.out.hn).mono ?_; rintro e w3 ⟨qd, nd, cd, rfl, hs, ⟨q3, n3, c3, hp3⟩, hb3⟩; have HP3 := Lib.hid hp3; have HR3 := Lib.hid (HR2.out.but hb3 HN0.out.1 HN0.out.2.1 HN0.out.2.2); clear hp3 hb3; have HSL := Lib.hid hs; have HND := Lib.hid (hs.bs _ (HSV.out _ HR3.out.le)).len; clear hs; have cl3 := (HR3.out.own.cells HR3.out.dx).2.2.2.1; have fr3 := HR3.out.own.frozen 35; obtain ⟨w4, hw4⟩ : ∃ W, w3.setCell ⟨w.heap.size + 1, 35, none⟩ (.slice qd nd cd) = W := ⟨_, rfl⟩; obtain ⟨X4, hX4⟩ : ∃ X, { X2 with p := qd, n := nd, c := cd, da := leftN zs 32 } = X := ⟨_, rfl⟩; have HX4 := Lib.hid hX4; have HR4 : Hid (Rd w w4 w.heap.size (w.heap.size + 1) rq0 X4) := Lib.hid (by rw [← hw4, ← hX4]; exact HR3.out.setDa _ _ _ _); have HP4 := Lib.hid (HP3.out.cell hw4 (fun hh => HN0.out.2.1 hh.symm) (Nat.le_succ _)); clear hX4)
      | fail)
    have HFT : Hid (∀ V, Below w.heap.size w V → X4.Fit V) := Lib.hid fun V hV => by rw [← HX4.out, ← HX2.out]; exact ⟨(by have h1 := HSL.out.bs V (HSV.out V hV); rw [gotN_all] at h1; exact h1), HSL.out.pc, HSL.out.nc, HSL.out.cm, HDO.out, (Nat.zero_le 140737488355328 : (0 : Nat) ≤ 140737488355328), u64_zero, by show _ ≤ (2 : Int) ∧ (2 : Int) ≤ _; omega, i64_zero, i64_zero⟩
    have HXR : Hid (X4.rc = ⟨2, 0, digN zs, [], leftN zs 32, 0, 0⟩) := Lib.hid (by rw [← HX4.out, ← HX2.out]; rfl)
    have HDA : Hid (∀ V, Bs V p n zs → Bs V X4.p X4.n X4.da) := Lib.hid fun V hV => by rw [← HX4.out, ← HX2.out]; exact (by have h1 := HSL.out.bs V hV; rw [gotN_all] at h1; exact h1)
    have HRR : Hid (RdR 2 zs X4.rc (!((false || decide (zs.length < 32)) || decide ((leftN zs 32).length < (leftN zs 32).length)) && decide (((leftN (leftN zs 32) (leftN zs 32).length).length : Int) = 0))) := Lib.hid (by rw [HXR.out]; exact rd12b (k := 2) (by omega) zs)
    have HLN := Lib.hid HP4.out.len
    rw [HLN.out] at HRR
    have HP := Lib.hid HP4.out.row
    have HR := HR4
    obtain ⟨xb, hxb⟩ : ∃ xb, ((false || decide (zs.length < 32)) || decide ((leftN zs 32).length < (leftN zs 32).length)) = xb := ⟨_, rfl⟩
    rw [hxb] at HRR HP
    obtain ⟨qf, hqf⟩ : ∃ y, q3 = y := ⟨_, rfl⟩
    obtain ⟨nf, hnf⟩ : ∃ y, n3 = y := ⟨_, rfl⟩
    obtain ⟨cf, hcf⟩ : ∃ y, c3 = y := ⟨_, rfl⟩
    rw [hnf] at HRR
    rw [hqf, hnf, hcf] at HP
    obtain ⟨W, hW⟩ : ∃ y, w4 = y := ⟨_, rfl⟩
    rw [hW] at HP HR ⊢
    clear hxb hqf hnf hcf
    have HXD := Lib.hid HR.out.dx
    have HLZ : Hid ((Try.prog.info? 29).map (·.size) = some (mixL X4.a X4.dg X4.z).length) := Lib.hid (by rw [mixL_length, HXD.out]; exact size38)
    have HMC := Lib.hid (show (mixL X4.a X4.dg X4.z).toArray = mixC X4.a X4.dg X4.z from rfl)
    have HRG : Hid (∀ W, Rm W (w.heap.size + 1) X4 → W.rangeAt (w.heap.size + 1) 0 (mixL X4.a X4.dg X4.z)) := Lib.hid fun W hW => Mx.range hW
    obtain ⟨L, hL⟩ : ∃ L, mixL X4.a X4.dg X4.z = L := ⟨_, rfl⟩
    rw [hL] at HLZ HMC HRG
    clear hL
    have HRD : Hid (Rd w W.drew w.heap.size (w.heap.size + 1) rq0 X4) := Lib.hid (HR.out.later (Below.refl _ _).drew)
    cases xb
    · have KA := Lib.hid (And.intro (HRG.out W HR.out.own) (And.intro HP.out.at.1 HP.out.at.2.1))
      refine wp_region_held_drew (S := (fun W => W.rangeAt (w.heap.size + 1) 0 L ∧ W.cell? ⟨b, 0, none⟩ = some (.slice qf nf cf) ∧ W.cell? ⟨b, 1, none⟩ = some (.bool false))) (by kernel_rfl) KA.out (fun hHeld => ?_)
      refine take_at 0 rfl (by kernel_rfl) (by kernel_rfl) (by kernel_rfl) (fun _ _ _ h => h) (yieldsIf_load_mid (by rfl) _ _ rfl _ _ rfl _ _ (fun _ h => h.1) Try.underlying29 rfl HLZ.out) (by assumption) ?_
      (try simp only [Act.put, List.setIfInBounds_toArray, List.set_cons_zero, List.set_cons_succ])
      refine take_at 1 (v := ?vv26) rfl (by kernel_rfl) (by kernel_rfl) (by kernel_rfl) (fun _ _ _ h => h) (Or.inl ⟨by rfl, ?hy26⟩) (by assumption) ?rest26
      case hy26 => intro w hSw; (try dsimp only at hSw); go_simp; (try with_reducible rfl)
      (try simp only [Act.put, List.setIfInBounds_toArray, List.set_cons_zero, List.set_cons_succ])
      refine take_at 2 (v := ?vv27) rfl (by kernel_rfl) (by kernel_rfl) (by kernel_rfl) (fun _ _ _ h => h) (Or.inl ⟨by rfl, ?hy27⟩) (by assumption) ?rest27
      case hy27 => intro w hSw; (try dsimp only at hSw); go_simp; (try with_reducible rfl)
      (try simp only [Act.put, List.setIfInBounds_toArray, List.set_cons_zero, List.set_cons_succ])
      refine take_at 3 (v := ?vv28) rfl (by kernel_rfl) (by kernel_rfl) (by kernel_rfl) (fun _ _ _ h => h) (Or.inl ⟨by rfl, ?hy28⟩) (by assumption) ?rest28
      case hy28 => intro w hSw; (try dsimp only at hSw); go_simp; (try with_reducible rfl)
      (try simp only [Act.put, List.setIfInBounds_toArray, List.set_cons_zero, List.set_cons_succ])
      refine take_at 4 (v := ?vv29) rfl (by kernel_rfl) (by kernel_rfl) (by kernel_rfl) (fun _ _ _ h => h) (Or.inl ⟨by rfl, ?hy29⟩) (by assumption) ?rest29
      case hy29 => intro w hSw; (try dsimp only at hSw); go_simp; (try with_reducible rfl)
      (try simp only [Act.put, List.setIfInBounds_toArray, List.set_cons_zero, List.set_cons_succ])
      refine take_at 5 (v := ?vv30) rfl (by kernel_rfl) (by kernel_rfl) (by kernel_rfl) (fun _ _ _ h => h) (Or.inl ⟨by rfl, ?hy30⟩) (by assumption) ?rest30
      case hy30 => intro w hSw; (try dsimp only at hSw); go_simp; (try with_reducible rfl)
      (try simp only [Act.put, List.setIfInBounds_toArray, List.set_cons_zero, List.set_cons_succ])
      refine take_at 6 (v := ?vv31) rfl (by kernel_rfl) (by kernel_rfl) (by kernel_rfl) (fun _ _ _ h => h) (Or.inl ⟨by rfl, ?hy31⟩) (by assumption) ?rest31
      case hy31 => intro w hSw; (try dsimp only at hSw); go_simp; (try with_reducible rfl)
      (try simp only [Act.put, List.setIfInBounds_toArray, List.set_cons_zero, List.set_cons_succ])
      refine take_at 7 (v := ?vv32) rfl (by kernel_rfl) (by kernel_rfl) (by kernel_rfl) (fun _ _ _ h => h) (Or.inl ⟨by rfl, ?hy32⟩) (by assumption) ?rest32
      case hy32 => intro w hSw; (try dsimp only at hSw); go_simp; (try with_reducible rfl)
      (try simp only [Act.put, List.setIfInBounds_toArray, List.set_cons_zero, List.set_cons_succ])
      refine take_at 8 (v := ?vv33) rfl (by kernel_rfl) (by kernel_rfl) (by kernel_rfl) (fun _ _ _ h => h) (Or.inl ⟨by rfl, ?hy33⟩) (by assumption) ?rest33
      case hy33 => intro w hSw; (try dsimp only at hSw); go_simp; (try with_reducible rfl)
      (try simp only [Act.put, List.setIfInBounds_toArray, List.set_cons_zero, List.set_cons_succ])
      refine take_at 9 (v := ?vv34) rfl (by kernel_rfl) (by kernel_rfl) (by kernel_rfl) (fun _ _ _ h => h) (Or.inl ⟨by rfl, ?hy34⟩) (by assumption) ?rest34
      case hy34 => intro w hSw; (try dsimp only at hSw); go_simp; (try with_reducible rfl)
      (try simp only [Act.put, List.setIfInBounds_toArray, List.set_cons_zero, List.set_cons_succ])
      refine ready_at 10 rfl (by kernel_rfl) (fun K hK => ?_)
      rw [if_pos (by rfl)]
      rw [HMC.out]
      refine wp_store_row 29 _ _ rfl w.heap.size _ rfl rfl 29 _ HRD.out.out (Rq.sizeOf X4 HXD.out) (Rq.sizes rq0 X4 rfl HXD.out) (Rq.one X4) ?_
      generalize hwZ : World.setRow _ _ _ = wZ
      have HZ : Hid (Rd w wZ w.heap.size (w.heap.size + 1) X4 X4) := Lib.hid (by rw [← hwZ]; exact HRD.out.ans X4 HXD.out)
      have HPZ : Hid (Pm wZ b qf nf cf false) := Lib.hid ((keep_row hwZ b HN0.out.1.symm).trans HP.out)
      have KB := Lib.hid (And.intro (HRG.out wZ HZ.out.own) (And.intro HPZ.out.at.1 HPZ.out.at.2.1))
      clear hwZ
      refine hK.out _ _ ?hS35 (fun hHeld => ?rest35)
      case hS35 => exact KB.out
      clear hK K
      (try simp only [Act.put, List.setIfInBounds_toArray, List.set_cons_zero, List.set_cons_succ])
      refine take_at 11 (v := ?vv36) rfl (by kernel_rfl) (by kernel_rfl) (by kernel_rfl) (fun _ _ _ h => h) (Or.inl ⟨by rfl, ?hy36⟩) (by assumption) ?rest36
      case hy36 => intro w hSw; (try dsimp only at hSw); go_simp; (try with_reducible rfl)
      (try simp only [Act.put, List.setIfInBounds_toArray, List.set_cons_zero, List.set_cons_succ])
      refine wpAnyH_done (by kernel_rfl) ?_ _
      go_wp2
      refine bodyPost_ret (HZ.out.out.res2 HZ.out.dy rfl _ rfl) rfl ?_
      exact RdW.of X4 _ (HFT.out _ HZ.out.le) HRR.out HZ.out.le HDA.out
    · have KA := Lib.hid (And.intro (HRG.out W HR.out.own) (And.intro HP.out.at.1 HP.out.at.2.1))
      refine wp_region_held_drew (S := (fun W => W.rangeAt (w.heap.size + 1) 0 L ∧ W.cell? ⟨b, 0, none⟩ = some (.slice qf nf cf) ∧ W.cell? ⟨b, 1, none⟩ = some (.bool true))) (by kernel_rfl) KA.out (fun hHeld => ?_)
      refine take_at 0 rfl (by kernel_rfl) (by kernel_rfl) (by kernel_rfl) (fun _ _ _ h => h) (yieldsIf_load_mid (by rfl) _ _ rfl _ _ rfl _ _ (fun _ h => h.1) Try.underlying29 rfl HLZ.out) (by assumption) ?_
      (try simp only [Act.put, List.setIfInBounds_toArray, List.set_cons_zero, List.set_cons_succ])
      refine take_at 1 (v := ?vv38) rfl (by kernel_rfl) (by kernel_rfl) (by kernel_rfl) (fun _ _ _ h => h) (Or.inl ⟨by rfl, ?hy38⟩) (by assumption) ?rest38
      case hy38 => intro w hSw; (try dsimp only at hSw); go_simp; (try with_reducible rfl)
      (try simp only [Act.put, List.setIfInBounds_toArray, List.set_cons_zero, List.set_cons_succ])
      refine take_at 2 (v := ?vv39) rfl (by kernel_rfl) (by kernel_rfl) (by kernel_rfl) (fun _ _ _ h => h) (Or.inl ⟨by rfl, ?hy39⟩) (by assumption) ?rest39
      case hy39 => intro w hSw; (try dsimp only at hSw); go_simp; (try with_reducible rfl)
      (try simp only [Act.put, List.setIfInBounds_toArray, List.set_cons_zero, List.set_cons_succ])
      refine take_at 3 (v := ?vv40) rfl (by kernel_rfl) (by kernel_rfl) (by kernel_rfl) (fun _ _ _ h => h) (Or.inl ⟨by rfl, ?hy40⟩) (by assumption) ?rest40
      case hy40 => intro w hSw; (try dsimp only at hSw); go_simp; (try with_reducible rfl)
      (try simp only [Act.put, List.setIfInBounds_toArray, List.set_cons_zero, List.set_cons_succ])
      refine take_at 4 (v := ?vv41) rfl (by kernel_rfl) (by kernel_rfl) (by kernel_rfl) (fun _ _ _ h => h) (Or.inl ⟨by rfl, ?hy41⟩) (by assumption) ?rest41
      case hy41 => intro w hSw; (try dsimp only at hSw); go_simp; (try with_reducible rfl)
      (try simp only [Act.put, List.setIfInBounds_toArray, List.set_cons_zero, List.set_cons_succ])
      refine take_at 5 (v := undef) rfl (by kernel_rfl) (by kernel_rfl) (by kernel_rfl) (fun _ _ _ h => h) (Or.inr ⟨by rfl, rfl⟩) (by assumption) ?_
      (try simp only [Act.put, List.setIfInBounds_toArray, List.set_cons_zero, List.set_cons_succ])
      refine take_at 6 (v := undef) rfl (by kernel_rfl) (by kernel_rfl) (by kernel_rfl) (fun _ _ _ h => h) (Or.inr ⟨by rfl, rfl⟩) (by assumption) ?_
      (try simp only [Act.put, List.setIfInBounds_toArray, List.set_cons_zero, List.set_cons_succ])
      refine take_at 7 (v := undef) rfl (by kernel_rfl) (by kernel_rfl) (by kernel_rfl) (fun _ _ _ h => h) (Or.inr ⟨by rfl, rfl⟩) (by assumption) ?_
      (try simp only [Act.put, List.setIfInBounds_toArray, List.set_cons_zero, List.set_cons_succ])
      refine take_at 8 (v := undef) rfl (by kernel_rfl) (by kernel_rfl) (by kernel_rfl) (fun _ _ _ h => h) (Or.inr ⟨by rfl, rfl⟩) (by assumption) ?_
      (try simp only [Act.put, List.setIfInBounds_toArray, List.set_cons_zero, List.set_cons_succ])
      refine take_at 9 (v := ?vv46) rfl (by kernel_rfl) (by kernel_rfl) (by kernel_rfl) (fun _ _ _ h => h) (Or.inl ⟨by rfl, ?hy46⟩) (by assumption) ?rest46
      case hy46 => intro w hSw; (try dsimp only at hSw); go_simp; (try with_reducible rfl)
      (try simp only [Act.put, List.setIfInBounds_toArray, List.set_cons_zero, List.set_cons_succ])
      refine ready_at 10 rfl (by kernel_rfl) (fun K hK => ?_)
      rw [if_pos (by rfl)]
      rw [HMC.out]
      refine wp_store_row 29 _ _ rfl w.heap.size _ rfl rfl 29 _ HRD.out.out (Rq.sizeOf X4 HXD.out) (Rq.sizes rq0 X4 rfl HXD.out) (Rq.one X4) ?_
      generalize hwZ : World.setRow _ _ _ = wZ
      have HZ : Hid (Rd w wZ w.heap.size (w.heap.size + 1) X4 X4) := Lib.hid (by rw [← hwZ]; exact HRD.out.ans X4 HXD.out)
      have HPZ : Hid (Pm wZ b qf nf cf true) := Lib.hid ((keep_row hwZ b HN0.out.1.symm).trans HP.out)
      have KB := Lib.hid (And.intro (HRG.out wZ HZ.out.own) (And.intro HPZ.out.at.1 HPZ.out.at.2.1))
      clear hwZ
      refine hK.out _ _ ?hS47 (fun hHeld => ?rest47)
      case hS47 => exact KB.out
      clear hK K
      (try simp only [Act.put, List.setIfInBounds_toArray, List.set_cons_zero, List.set_cons_succ])
      refine take_at 11 (v := ?vv48) rfl (by kernel_rfl) (by kernel_rfl) (by kernel_rfl) (fun _ _ _ h => h) (Or.inl ⟨by rfl, ?hy48⟩) (by assumption) ?rest48
      case hy48 => intro w hSw; (try dsimp only at hSw); go_simp; (try with_reducible rfl)
      (try simp only [Act.put, List.setIfInBounds_toArray, List.set_cons_zero, List.set_cons_succ])
      refine wpAnyH_done (by kernel_rfl) ?_ _
      go_wp2
      refine bodyPost_ret (HZ.out.out.res2 HZ.out.dy rfl _ rfl) rfl ?_
      exact RdW.of X4 _ (HFT.out _ HZ.out.le) HRR.out HZ.out.le HDA.out
  · have HDO := Lib.hid (digN_ok (HBY.out.drop (textE zs 0).toNat))
    go_upto_region 21 with (first
      | (go_at_call 70; (fail_if_success (have hh := HP1)); refine (ptext_any _ _ _ _ _ _ _ _ _ HP0.out).mono ?_; rintro e w1 ⟨rfl, ⟨q1, n1, c1, hp1⟩, hb1⟩; have HP1 := Lib.hid hp1; have HR1 := Lib.hid (HR0.out.but hb1 HN0.out.1 HN0.out.2.1 HN0.out.2.2); clear hp1 hb1; have cl1 := (HR1.out.own.cells HR1.out.dx).2.2.1; have fr1 := HR1.out.own.frozen 34; obtain ⟨w2, hw2⟩ : ∃ W, w1.setCell ⟨w.heap.size + 1, 34, none⟩ (.string (strOfNums (textS zs 0))) = W := ⟨_, rfl⟩; obtain ⟨X2, hX2⟩ : ∃ X, { rqK 3 with nm := strOfNums (textS zs 0) } = X := ⟨_, rfl⟩; have HX2 := Lib.hid hX2; have HR2 : Hid (Rd w w2 w.heap.size (w.heap.size + 1) rq0 X2) := Lib.hid (by rw [← hw2, ← hX2]; exact HR1.out.setNm _); have HP2 := Lib.hid (HP1.out.cell hw2 (fun hh => HN0.out.2.1 hh.symm) (Nat.le_succ _)); clear hX2)
      | (go_at_call 71; (fail_if_success (have hh := HP3)); refine (pdigest_any _ _ _ _ _ _ _ _ _ HP2.out).mono ?_; rintro e w3 ⟨rfl, ⟨q3, n3, c3, hp3⟩, hb3⟩; have HP3 := Lib.hid hp3; have HR3 := Lib.hid (HR2.out.but hb3 HN0.out.1 HN0.out.2.1 HN0.out.2.2); clear hp3 hb3)
      | (refine wpList_store_mid rfl 27 _ _ rfl (w.heap.size + 1) 2 _ rfl rfl (by rw [bcs_size, HDO.out.1]; exact Mx.there HR3.out.own 2 32 (by rw [HR3.out.dx]; simp [Rq.a, Rq.z])) (by rw [bcs_size, HDO.out.1]; exact size32) (bcs_one _) ?_; generalize hwD : World.setCells _ _ _ _ = w4; obtain ⟨X4, hX4⟩ : ∃ X, { X2 with dg := digN (zs.drop (textE zs 0).toNat) } = X := ⟨_, rfl⟩; have HX4 := Lib.hid hX4; have HR4 : Hid (Rd w w4 w.heap.size (w.heap.size + 1) rq0 X4) := Lib.hid (by rw [← hwD, ← hX4]; exact HR3.out.setDg _ HDO.out.1); have HP4 := Lib.hid (HP3.out.cells hwD (fun hh => HN0.out.2.1 hh.symm) (Nat.le_succ _)); clear hwD hX4)
      | fail)
    have HFT : Hid (∀ V, Below w.heap.size w V → X4.Fit V) := Lib.hid fun V hV => by rw [← HX4.out, ← HX2.out]; exact ⟨Bs.empty _ _, fun _ => rfl, Nat.le_refl _, Nat.zero_le _, HDO.out, (by have h1 := strOf_size HBY.out 0; have h2 := H.out.len; show (strOfNums (textS zs 0)).size ≤ _; omega), u64_zero, by show _ ≤ (3 : Int) ∧ (3 : Int) ≤ _; omega, i64_zero, i64_zero⟩
    have HXR : Hid (X4.rc = ⟨3, 0, digN (zs.drop (textE zs 0).toNat), textS zs 0, [], 0, 0⟩) := Lib.hid (by rw [← HX4.out, ← HX2.out]; unfold Rq.rc; dsimp only; rw [numsOf_strOfNums (textS_byt HBY.out 0)]; rfl)
    have HDA : Hid (∀ V, Bs V p n zs → Bs V X4.p X4.n X4.da) := Lib.hid fun V hV => by rw [← HX4.out, ← HX2.out]; exact Bs.empty _ _
    have HRR : Hid (RdR 3 zs X4.rc (!((false || !textB zs 0) || decide ((zs.drop (textE zs 0).toNat).length < 32)) && decide (((leftN (zs.drop (textE zs 0).toNat) 32).length : Int) = 0))) := Lib.hid (by rw [HXR.out]; exact rd3 zs HBY.out)
    have HLN := Lib.hid HP4.out.len
    rw [HLN.out] at HRR
    have HP := Lib.hid HP4.out.row
    have HR := HR4
    obtain ⟨xb, hxb⟩ : ∃ xb, ((false || !textB zs 0) || decide ((zs.drop (textE zs 0).toNat).length < 32)) = xb := ⟨_, rfl⟩
    rw [hxb] at HRR HP
    obtain ⟨qf, hqf⟩ : ∃ y, q3 = y := ⟨_, rfl⟩
    obtain ⟨nf, hnf⟩ : ∃ y, n3 = y := ⟨_, rfl⟩
    obtain ⟨cf, hcf⟩ : ∃ y, c3 = y := ⟨_, rfl⟩
    rw [hnf] at HRR
    rw [hqf, hnf, hcf] at HP
    obtain ⟨W, hW⟩ : ∃ y, w4 = y := ⟨_, rfl⟩
    rw [hW] at HP HR ⊢
    clear hxb hqf hnf hcf
    have HXD := Lib.hid HR.out.dx
    have HLZ : Hid ((Try.prog.info? 29).map (·.size) = some (mixL X4.a X4.dg X4.z).length) := Lib.hid (by rw [mixL_length, HXD.out]; exact size38)
    have HMC := Lib.hid (show (mixL X4.a X4.dg X4.z).toArray = mixC X4.a X4.dg X4.z from rfl)
    have HRG : Hid (∀ W, Rm W (w.heap.size + 1) X4 → W.rangeAt (w.heap.size + 1) 0 (mixL X4.a X4.dg X4.z)) := Lib.hid fun W hW => Mx.range hW
    obtain ⟨L, hL⟩ : ∃ L, mixL X4.a X4.dg X4.z = L := ⟨_, rfl⟩
    rw [hL] at HLZ HMC HRG
    clear hL
    have HRD : Hid (Rd w W.drew w.heap.size (w.heap.size + 1) rq0 X4) := Lib.hid (HR.out.later (Below.refl _ _).drew)
    cases xb
    · have KA := Lib.hid (And.intro (HRG.out W HR.out.own) (And.intro HP.out.at.1 HP.out.at.2.1))
      refine wp_region_held_drew (S := (fun W => W.rangeAt (w.heap.size + 1) 0 L ∧ W.cell? ⟨b, 0, none⟩ = some (.slice qf nf cf) ∧ W.cell? ⟨b, 1, none⟩ = some (.bool false))) (by kernel_rfl) KA.out (fun hHeld => ?_)
      refine take_at 0 rfl (by kernel_rfl) (by kernel_rfl) (by kernel_rfl) (fun _ _ _ h => h) (yieldsIf_load_mid (by rfl) _ _ rfl _ _ rfl _ _ (fun _ h => h.1) Try.underlying29 rfl HLZ.out) (by assumption) ?_
      (try simp only [Act.put, List.setIfInBounds_toArray, List.set_cons_zero, List.set_cons_succ])
      refine take_at 1 (v := ?vv50) rfl (by kernel_rfl) (by kernel_rfl) (by kernel_rfl) (fun _ _ _ h => h) (Or.inl ⟨by rfl, ?hy50⟩) (by assumption) ?rest50
      case hy50 => intro w hSw; (try dsimp only at hSw); go_simp; (try with_reducible rfl)
      (try simp only [Act.put, List.setIfInBounds_toArray, List.set_cons_zero, List.set_cons_succ])
      refine take_at 2 (v := ?vv51) rfl (by kernel_rfl) (by kernel_rfl) (by kernel_rfl) (fun _ _ _ h => h) (Or.inl ⟨by rfl, ?hy51⟩) (by assumption) ?rest51
      case hy51 => intro w hSw; (try dsimp only at hSw); go_simp; (try with_reducible rfl)
      (try simp only [Act.put, List.setIfInBounds_toArray, List.set_cons_zero, List.set_cons_succ])
      refine take_at 3 (v := ?vv52) rfl (by kernel_rfl) (by kernel_rfl) (by kernel_rfl) (fun _ _ _ h => h) (Or.inl ⟨by rfl, ?hy52⟩) (by assumption) ?rest52
      case hy52 => intro w hSw; (try dsimp only at hSw); go_simp; (try with_reducible rfl)
      (try simp only [Act.put, List.setIfInBounds_toArray, List.set_cons_zero, List.set_cons_succ])
      refine take_at 4 (v := ?vv53) rfl (by kernel_rfl) (by kernel_rfl) (by kernel_rfl) (fun _ _ _ h => h) (Or.inl ⟨by rfl, ?hy53⟩) (by assumption) ?rest53
      case hy53 => intro w hSw; (try dsimp only at hSw); go_simp; (try with_reducible rfl)
      (try simp only [Act.put, List.setIfInBounds_toArray, List.set_cons_zero, List.set_cons_succ])
      refine take_at 5 (v := ?vv54) rfl (by kernel_rfl) (by kernel_rfl) (by kernel_rfl) (fun _ _ _ h => h) (Or.inl ⟨by rfl, ?hy54⟩) (by assumption) ?rest54
      case hy54 => intro w hSw; (try dsimp only at hSw); go_simp; (try with_reducible rfl)
      (try simp only [Act.put, List.setIfInBounds_toArray, List.set_cons_zero, List.set_cons_succ])
      refine take_at 6 (v := ?vv55) rfl (by kernel_rfl) (by kernel_rfl) (by kernel_rfl) (fun _ _ _ h => h) (Or.inl ⟨by rfl, ?hy55⟩) (by assumption) ?rest55
      case hy55 => intro w hSw; (try dsimp only at hSw); go_simp; (try with_reducible rfl)
      (try simp only [Act.put, List.setIfInBounds_toArray, List.set_cons_zero, List.set_cons_succ])
      refine take_at 7 (v := ?vv56) rfl (by kernel_rfl) (by kernel_rfl) (by kernel_rfl) (fun _ _ _ h => h) (Or.inl ⟨by rfl, ?hy56⟩) (by assumption) ?rest56
      case hy56 => intro w hSw; (try dsimp only at hSw); go_simp; (try with_reducible rfl)
      (try simp only [Act.put, List.setIfInBounds_toArray, List.set_cons_zero, List.set_cons_succ])
      refine take_at 8 (v := ?vv57) rfl (by kernel_rfl) (by kernel_rfl) (by kernel_rfl) (fun _ _ _ h => h) (Or.inl ⟨by rfl, ?hy57⟩) (by assumption) ?rest57
      case hy57 => intro w hSw; (try dsimp only at hSw); go_simp; (try with_reducible rfl)
      (try simp only [Act.put, List.setIfInBounds_toArray, List.set_cons_zero, List.set_cons_succ])
      refine take_at 9 (v := ?vv58) rfl (by kernel_rfl) (by kernel_rfl) (by kernel_rfl) (fun _ _ _ h => h) (Or.inl ⟨by rfl, ?hy58⟩) (by assumption) ?rest58
      case hy58 => intro w hSw; (try dsimp only at hSw); go_simp; (try with_reducible rfl)
      (try simp only [Act.put, List.setIfInBounds_toArray, List.set_cons_zero, List.set_cons_succ])
      refine ready_at 10 rfl (by kernel_rfl) (fun K hK => ?_)
      rw [if_pos (by rfl)]
      rw [HMC.out]
      refine wp_store_row 29 _ _ rfl w.heap.size _ rfl rfl 29 _ HRD.out.out (Rq.sizeOf X4 HXD.out) (Rq.sizes rq0 X4 rfl HXD.out) (Rq.one X4) ?_
      generalize hwZ : World.setRow _ _ _ = wZ
      have HZ : Hid (Rd w wZ w.heap.size (w.heap.size + 1) X4 X4) := Lib.hid (by rw [← hwZ]; exact HRD.out.ans X4 HXD.out)
      have HPZ : Hid (Pm wZ b qf nf cf false) := Lib.hid ((keep_row hwZ b HN0.out.1.symm).trans HP.out)
      have KB := Lib.hid (And.intro (HRG.out wZ HZ.out.own) (And.intro HPZ.out.at.1 HPZ.out.at.2.1))
      clear hwZ
      refine hK.out _ _ ?hS59 (fun hHeld => ?rest59)
      case hS59 => exact KB.out
      clear hK K
      (try simp only [Act.put, List.setIfInBounds_toArray, List.set_cons_zero, List.set_cons_succ])
      refine take_at 11 (v := ?vv60) rfl (by kernel_rfl) (by kernel_rfl) (by kernel_rfl) (fun _ _ _ h => h) (Or.inl ⟨by rfl, ?hy60⟩) (by assumption) ?rest60
      case hy60 => intro w hSw; (try dsimp only at hSw); go_simp; (try with_reducible rfl)
      (try simp only [Act.put, List.setIfInBounds_toArray, List.set_cons_zero, List.set_cons_succ])
      refine wpAnyH_done (by kernel_rfl) ?_ _
      go_wp2
      refine bodyPost_ret (HZ.out.out.res2 HZ.out.dy rfl _ rfl) rfl ?_
      exact RdW.of X4 _ (HFT.out _ HZ.out.le) HRR.out HZ.out.le HDA.out
    · have KA := Lib.hid (And.intro (HRG.out W HR.out.own) (And.intro HP.out.at.1 HP.out.at.2.1))
      refine wp_region_held_drew (S := (fun W => W.rangeAt (w.heap.size + 1) 0 L ∧ W.cell? ⟨b, 0, none⟩ = some (.slice qf nf cf) ∧ W.cell? ⟨b, 1, none⟩ = some (.bool true))) (by kernel_rfl) KA.out (fun hHeld => ?_)
      refine take_at 0 rfl (by kernel_rfl) (by kernel_rfl) (by kernel_rfl) (fun _ _ _ h => h) (yieldsIf_load_mid (by rfl) _ _ rfl _ _ rfl _ _ (fun _ h => h.1) Try.underlying29 rfl HLZ.out) (by assumption) ?_
      (try simp only [Act.put, List.setIfInBounds_toArray, List.set_cons_zero, List.set_cons_succ])
      refine take_at 1 (v := ?vv62) rfl (by kernel_rfl) (by kernel_rfl) (by kernel_rfl) (fun _ _ _ h => h) (Or.inl ⟨by rfl, ?hy62⟩) (by assumption) ?rest62
      case hy62 => intro w hSw; (try dsimp only at hSw); go_simp; (try with_reducible rfl)
      (try simp only [Act.put, List.setIfInBounds_toArray, List.set_cons_zero, List.set_cons_succ])
      refine take_at 2 (v := ?vv63) rfl (by kernel_rfl) (by kernel_rfl) (by kernel_rfl) (fun _ _ _ h => h) (Or.inl ⟨by rfl, ?hy63⟩) (by assumption) ?rest63
      case hy63 => intro w hSw; (try dsimp only at hSw); go_simp; (try with_reducible rfl)
      (try simp only [Act.put, List.setIfInBounds_toArray, List.set_cons_zero, List.set_cons_succ])
      refine take_at 3 (v := ?vv64) rfl (by kernel_rfl) (by kernel_rfl) (by kernel_rfl) (fun _ _ _ h => h) (Or.inl ⟨by rfl, ?hy64⟩) (by assumption) ?rest64
      case hy64 => intro w hSw; (try dsimp only at hSw); go_simp; (try with_reducible rfl)
      (try simp only [Act.put, List.setIfInBounds_toArray, List.set_cons_zero, List.set_cons_succ])
      refine take_at 4 (v := ?vv65) rfl (by kernel_rfl) (by kernel_rfl) (by kernel_rfl) (fun _ _ _ h => h) (Or.inl ⟨by rfl, ?hy65⟩) (by assumption) ?rest65
      case hy65 => intro w hSw; (try dsimp only at hSw); go_simp; (try with_reducible rfl)
      (try simp only [Act.put, List.setIfInBounds_toArray, List.set_cons_zero, List.set_cons_succ])
      refine take_at 5 (v := undef) rfl (by kernel_rfl) (by kernel_rfl) (by kernel_rfl) (fun _ _ _ h => h) (Or.inr ⟨by rfl, rfl⟩) (by assumption) ?_
      (try simp only [Act.put, List.setIfInBounds_toArray, List.set_cons_zero, List.set_cons_succ])
      refine take_at 6 (v := undef) rfl (by kernel_rfl) (by kernel_rfl) (by kernel_rfl) (fun _ _ _ h => h) (Or.inr ⟨by rfl, rfl⟩) (by assumption) ?_
      (try simp only [Act.put, List.setIfInBounds_toArray, List.set_cons_zero, List.set_cons_succ])
      refine take_at 7 (v := undef) rfl (by kernel_rfl) (by kernel_rfl) (by kernel_rfl) (fun _ _ _ h => h) (Or.inr ⟨by rfl, rfl⟩) (by assumption) ?_
      (try simp only [Act.put, List.setIfInBounds_toArray, List.set_cons_zero, List.set_cons_succ])
      refine take_at 8 (v := undef) rfl (by kernel_rfl) (by kernel_rfl) (by kernel_rfl) (fun _ _ _ h => h) (Or.inr ⟨by rfl, rfl⟩) (by assumption) ?_
      (try simp only [Act.put, List.setIfInBounds_toArray, List.set_cons_zero, List.set_cons_succ])
      refine take_at 9 (v := ?vv70) rfl (by kernel_rfl) (by kernel_rfl) (by kernel_rfl) (fun _ _ _ h => h) (Or.inl ⟨by rfl, ?hy70⟩) (by assumption) ?rest70
      case hy70 => intro w hSw; (try dsimp only at hSw); go_simp; (try with_reducible rfl)
      (try simp only [Act.put, List.setIfInBounds_toArray, List.set_cons_zero, List.set_cons_succ])
      refine ready_at 10 rfl (by kernel_rfl) (fun K hK => ?_)
      rw [if_pos (by rfl)]
      rw [HMC.out]
      refine wp_store_row 29 _ _ rfl w.heap.size _ rfl rfl 29 _ HRD.out.out (Rq.sizeOf X4 HXD.out) (Rq.sizes rq0 X4 rfl HXD.out) (Rq.one X4) ?_
      generalize hwZ : World.setRow _ _ _ = wZ
      have HZ : Hid (Rd w wZ w.heap.size (w.heap.size + 1) X4 X4) := Lib.hid (by rw [← hwZ]; exact HRD.out.ans X4 HXD.out)
      have HPZ : Hid (Pm wZ b qf nf cf true) := Lib.hid ((keep_row hwZ b HN0.out.1.symm).trans HP.out)
      have KB := Lib.hid (And.intro (HRG.out wZ HZ.out.own) (And.intro HPZ.out.at.1 HPZ.out.at.2.1))
      clear hwZ
      refine hK.out _ _ ?hS71 (fun hHeld => ?rest71)
      case hS71 => exact KB.out
      clear hK K
      (try simp only [Act.put, List.setIfInBounds_toArray, List.set_cons_zero, List.set_cons_succ])
      refine take_at 11 (v := ?vv72) rfl (by kernel_rfl) (by kernel_rfl) (by kernel_rfl) (fun _ _ _ h => h) (Or.inl ⟨by rfl, ?hy72⟩) (by assumption) ?rest72
      case hy72 => intro w hSw; (try dsimp only at hSw); go_simp; (try with_reducible rfl)
      (try simp only [Act.put, List.setIfInBounds_toArray, List.set_cons_zero, List.set_cons_succ])
      refine wpAnyH_done (by kernel_rfl) ?_ _
      go_wp2
      refine bodyPost_ret (HZ.out.out.res2 HZ.out.dy rfl _ rfl) rfl ?_
      exact RdW.of X4 _ (HFT.out _ HZ.out.le) HRR.out HZ.out.le HDA.out
  · skip
    go_upto_region 21 with (first
      | (go_at_call 70; (fail_if_success (have hh := HP1)); refine (ptext_any _ _ _ _ _ _ _ _ _ HP0.out).mono ?_; rintro e w1 ⟨rfl, ⟨q1, n1, c1, hp1⟩, hb1⟩; have HP1 := Lib.hid hp1; have HR1 := Lib.hid (HR0.out.but hb1 HN0.out.1 HN0.out.2.1 HN0.out.2.2); clear hp1 hb1; have cl1 := (HR1.out.own.cells HR1.out.dx).2.2.1; have fr1 := HR1.out.own.frozen 34; obtain ⟨w2, hw2⟩ : ∃ W, w1.setCell ⟨w.heap.size + 1, 34, none⟩ (.string (strOfNums (textS zs 0))) = W := ⟨_, rfl⟩; obtain ⟨X2, hX2⟩ : ∃ X, { rqK 4 with nm := strOfNums (textS zs 0) } = X := ⟨_, rfl⟩; have HX2 := Lib.hid hX2; have HR2 : Hid (Rd w w2 w.heap.size (w.heap.size + 1) rq0 X2) := Lib.hid (by rw [← hw2, ← hX2]; exact HR1.out.setNm _); have HP2 := Lib.hid (HP1.out.cell hw2 (fun hh => HN0.out.2.1 hh.symm) (Nat.le_succ _)); clear hX2)
      | fail)
    have HFT : Hid (∀ V, Below w.heap.size w V → X2.Fit V) := Lib.hid fun V hV => by rw [← HX2.out]; exact ⟨Bs.empty _ _, fun _ => rfl, Nat.le_refl _, Nat.zero_le _, dok_zero, (by have h1 := strOf_size HBY.out 0; have h2 := H.out.len; show (strOfNums (textS zs 0)).size ≤ _; omega), u64_zero, by show _ ≤ (4 : Int) ∧ (4 : Int) ≤ _; omega, i64_zero, i64_zero⟩
    have HXR : Hid (X2.rc = ⟨4, 0, dg0, textS zs 0, [], 0, 0⟩) := Lib.hid (by rw [← HX2.out]; unfold Rq.rc; dsimp only; rw [numsOf_strOfNums (textS_byt HBY.out 0)]; rfl)
    have HDA : Hid (∀ V, Bs V p n zs → Bs V X2.p X2.n X2.da) := Lib.hid fun V hV => by rw [← HX2.out]; exact Bs.empty _ _
    have HRR : Hid (RdR 4 zs X2.rc (!(false || !textB zs 0) && decide (((zs.drop (textE zs 0).toNat).length : Int) = 0))) := Lib.hid (by rw [HXR.out]; exact rd4 zs HBY.out)
    have HLN := Lib.hid HP2.out.len
    rw [HLN.out] at HRR
    have HP := Lib.hid HP2.out.row
    have HR := HR2
    obtain ⟨xb, hxb⟩ : ∃ xb, (false || !textB zs 0) = xb := ⟨_, rfl⟩
    rw [hxb] at HRR HP
    obtain ⟨qf, hqf⟩ : ∃ y, q1 = y := ⟨_, rfl⟩
    obtain ⟨nf, hnf⟩ : ∃ y, n1 = y := ⟨_, rfl⟩
    obtain ⟨cf, hcf⟩ : ∃ y, c1 = y := ⟨_, rfl⟩
    rw [hnf] at HRR
    rw [hqf, hnf, hcf] at HP
    obtain ⟨W, hW⟩ : ∃ y, w2 = y := ⟨_, rfl⟩
    rw [hW] at HP HR ⊢
    clear hxb hqf hnf hcf
    have HXD := Lib.hid HR.out.dx
    have HLZ : Hid ((Try.prog.info? 29).map (·.size) = some (mixL X2.a X2.dg X2.z).length) := Lib.hid (by rw [mixL_length, HXD.out]; exact size38)
    have HMC := Lib.hid (show (mixL X2.a X2.dg X2.z).toArray = mixC X2.a X2.dg X2.z from rfl)
    have HRG : Hid (∀ W, Rm W (w.heap.size + 1) X2 → W.rangeAt (w.heap.size + 1) 0 (mixL X2.a X2.dg X2.z)) := Lib.hid fun W hW => Mx.range hW
    obtain ⟨L, hL⟩ : ∃ L, mixL X2.a X2.dg X2.z = L := ⟨_, rfl⟩
    rw [hL] at HLZ HMC HRG
    clear hL
    have HRD : Hid (Rd w W.drew w.heap.size (w.heap.size + 1) rq0 X2) := Lib.hid (HR.out.later (Below.refl _ _).drew)
    cases xb
    · have KA := Lib.hid (And.intro (HRG.out W HR.out.own) (And.intro HP.out.at.1 HP.out.at.2.1))
      refine wp_region_held_drew (S := (fun W => W.rangeAt (w.heap.size + 1) 0 L ∧ W.cell? ⟨b, 0, none⟩ = some (.slice qf nf cf) ∧ W.cell? ⟨b, 1, none⟩ = some (.bool false))) (by kernel_rfl) KA.out (fun hHeld => ?_)
      refine take_at 0 rfl (by kernel_rfl) (by kernel_rfl) (by kernel_rfl) (fun _ _ _ h => h) (yieldsIf_load_mid (by rfl) _ _ rfl _ _ rfl _ _ (fun _ h => h.1) Try.underlying29 rfl HLZ.out) (by assumption) ?_
      (try simp only [Act.put, List.setIfInBounds_toArray, List.set_cons_zero, List.set_cons_succ])
      refine take_at 1 (v := ?vv74) rfl (by kernel_rfl) (by kernel_rfl) (by kernel_rfl) (fun _ _ _ h => h) (Or.inl ⟨by rfl, ?hy74⟩) (by assumption) ?rest74
      case hy74 => intro w hSw; (try dsimp only at hSw); go_simp; (try with_reducible rfl)
      (try simp only [Act.put, List.setIfInBounds_toArray, List.set_cons_zero, List.set_cons_succ])
      refine take_at 2 (v := ?vv75) rfl (by kernel_rfl) (by kernel_rfl) (by kernel_rfl) (fun _ _ _ h => h) (Or.inl ⟨by rfl, ?hy75⟩) (by assumption) ?rest75
      case hy75 => intro w hSw; (try dsimp only at hSw); go_simp; (try with_reducible rfl)
      (try simp only [Act.put, List.setIfInBounds_toArray, List.set_cons_zero, List.set_cons_succ])
      refine take_at 3 (v := ?vv76) rfl (by kernel_rfl) (by kernel_rfl) (by kernel_rfl) (fun _ _ _ h => h) (Or.inl ⟨by rfl, ?hy76⟩) (by assumption) ?rest76
      case hy76 => intro w hSw; (try dsimp only at hSw); go_simp; (try with_reducible rfl)
      (try simp only [Act.put, List.setIfInBounds_toArray, List.set_cons_zero, List.set_cons_succ])
      refine take_at 4 (v := ?vv77) rfl (by kernel_rfl) (by kernel_rfl) (by kernel_rfl) (fun _ _ _ h => h) (Or.inl ⟨by rfl, ?hy77⟩) (by assumption) ?rest77
      case hy77 => intro w hSw; (try dsimp only at hSw); go_simp; (try with_reducible rfl)
      (try simp only [Act.put, List.setIfInBounds_toArray, List.set_cons_zero, List.set_cons_succ])
      refine take_at 5 (v := ?vv78) rfl (by kernel_rfl) (by kernel_rfl) (by kernel_rfl) (fun _ _ _ h => h) (Or.inl ⟨by rfl, ?hy78⟩) (by assumption) ?rest78
      case hy78 => intro w hSw; (try dsimp only at hSw); go_simp; (try with_reducible rfl)
      (try simp only [Act.put, List.setIfInBounds_toArray, List.set_cons_zero, List.set_cons_succ])
      refine take_at 6 (v := ?vv79) rfl (by kernel_rfl) (by kernel_rfl) (by kernel_rfl) (fun _ _ _ h => h) (Or.inl ⟨by rfl, ?hy79⟩) (by assumption) ?rest79
      case hy79 => intro w hSw; (try dsimp only at hSw); go_simp; (try with_reducible rfl)
      (try simp only [Act.put, List.setIfInBounds_toArray, List.set_cons_zero, List.set_cons_succ])
      refine take_at 7 (v := ?vv80) rfl (by kernel_rfl) (by kernel_rfl) (by kernel_rfl) (fun _ _ _ h => h) (Or.inl ⟨by rfl, ?hy80⟩) (by assumption) ?rest80
      case hy80 => intro w hSw; (try dsimp only at hSw); go_simp; (try with_reducible rfl)
      (try simp only [Act.put, List.setIfInBounds_toArray, List.set_cons_zero, List.set_cons_succ])
      refine take_at 8 (v := ?vv81) rfl (by kernel_rfl) (by kernel_rfl) (by kernel_rfl) (fun _ _ _ h => h) (Or.inl ⟨by rfl, ?hy81⟩) (by assumption) ?rest81
      case hy81 => intro w hSw; (try dsimp only at hSw); go_simp; (try with_reducible rfl)
      (try simp only [Act.put, List.setIfInBounds_toArray, List.set_cons_zero, List.set_cons_succ])
      refine take_at 9 (v := ?vv82) rfl (by kernel_rfl) (by kernel_rfl) (by kernel_rfl) (fun _ _ _ h => h) (Or.inl ⟨by rfl, ?hy82⟩) (by assumption) ?rest82
      case hy82 => intro w hSw; (try dsimp only at hSw); go_simp; (try with_reducible rfl)
      (try simp only [Act.put, List.setIfInBounds_toArray, List.set_cons_zero, List.set_cons_succ])
      refine ready_at 10 rfl (by kernel_rfl) (fun K hK => ?_)
      rw [if_pos (by rfl)]
      rw [HMC.out]
      refine wp_store_row 29 _ _ rfl w.heap.size _ rfl rfl 29 _ HRD.out.out (Rq.sizeOf X2 HXD.out) (Rq.sizes rq0 X2 rfl HXD.out) (Rq.one X2) ?_
      generalize hwZ : World.setRow _ _ _ = wZ
      have HZ : Hid (Rd w wZ w.heap.size (w.heap.size + 1) X2 X2) := Lib.hid (by rw [← hwZ]; exact HRD.out.ans X2 HXD.out)
      have HPZ : Hid (Pm wZ b qf nf cf false) := Lib.hid ((keep_row hwZ b HN0.out.1.symm).trans HP.out)
      have KB := Lib.hid (And.intro (HRG.out wZ HZ.out.own) (And.intro HPZ.out.at.1 HPZ.out.at.2.1))
      clear hwZ
      refine hK.out _ _ ?hS83 (fun hHeld => ?rest83)
      case hS83 => exact KB.out
      clear hK K
      (try simp only [Act.put, List.setIfInBounds_toArray, List.set_cons_zero, List.set_cons_succ])
      refine take_at 11 (v := ?vv84) rfl (by kernel_rfl) (by kernel_rfl) (by kernel_rfl) (fun _ _ _ h => h) (Or.inl ⟨by rfl, ?hy84⟩) (by assumption) ?rest84
      case hy84 => intro w hSw; (try dsimp only at hSw); go_simp; (try with_reducible rfl)
      (try simp only [Act.put, List.setIfInBounds_toArray, List.set_cons_zero, List.set_cons_succ])
      refine wpAnyH_done (by kernel_rfl) ?_ _
      go_wp2
      refine bodyPost_ret (HZ.out.out.res2 HZ.out.dy rfl _ rfl) rfl ?_
      exact RdW.of X2 _ (HFT.out _ HZ.out.le) HRR.out HZ.out.le HDA.out
    · have KA := Lib.hid (And.intro (HRG.out W HR.out.own) (And.intro HP.out.at.1 HP.out.at.2.1))
      refine wp_region_held_drew (S := (fun W => W.rangeAt (w.heap.size + 1) 0 L ∧ W.cell? ⟨b, 0, none⟩ = some (.slice qf nf cf) ∧ W.cell? ⟨b, 1, none⟩ = some (.bool true))) (by kernel_rfl) KA.out (fun hHeld => ?_)
      refine take_at 0 rfl (by kernel_rfl) (by kernel_rfl) (by kernel_rfl) (fun _ _ _ h => h) (yieldsIf_load_mid (by rfl) _ _ rfl _ _ rfl _ _ (fun _ h => h.1) Try.underlying29 rfl HLZ.out) (by assumption) ?_
      (try simp only [Act.put, List.setIfInBounds_toArray, List.set_cons_zero, List.set_cons_succ])
      refine take_at 1 (v := ?vv86) rfl (by kernel_rfl) (by kernel_rfl) (by kernel_rfl) (fun _ _ _ h => h) (Or.inl ⟨by rfl, ?hy86⟩) (by assumption) ?rest86
      case hy86 => intro w hSw; (try dsimp only at hSw); go_simp; (try with_reducible rfl)
      (try simp only [Act.put, List.setIfInBounds_toArray, List.set_cons_zero, List.set_cons_succ])
      refine take_at 2 (v := ?vv87) rfl (by kernel_rfl) (by kernel_rfl) (by kernel_rfl) (fun _ _ _ h => h) (Or.inl ⟨by rfl, ?hy87⟩) (by assumption) ?rest87
      case hy87 => intro w hSw; (try dsimp only at hSw); go_simp; (try with_reducible rfl)
      (try simp only [Act.put, List.setIfInBounds_toArray, List.set_cons_zero, List.set_cons_succ])
      refine take_at 3 (v := ?vv88) rfl (by kernel_rfl) (by kernel_rfl) (by kernel_rfl) (fun _ _ _ h => h) (Or.inl ⟨by rfl, ?hy88⟩) (by assumption) ?rest88
      case hy88 => intro w hSw; (try dsimp only at hSw); go_simp; (try with_reducible rfl)
      (try simp only [Act.put, List.setIfInBounds_toArray, List.set_cons_zero, List.set_cons_succ])
      refine take_at 4 (v := ?vv89) rfl (by kernel_rfl) (by kernel_rfl) (by kernel_rfl) (fun _ _ _ h => h) (Or.inl ⟨by rfl, ?hy89⟩) (by assumption) ?rest89
      case hy89 => intro w hSw; (try dsimp only at hSw); go_simp; (try with_reducible rfl)
      (try simp only [Act.put, List.setIfInBounds_toArray, List.set_cons_zero, List.set_cons_succ])
      refine take_at 5 (v := undef) rfl (by kernel_rfl) (by kernel_rfl) (by kernel_rfl) (fun _ _ _ h => h) (Or.inr ⟨by rfl, rfl⟩) (by assumption) ?_
      (try simp only [Act.put, List.setIfInBounds_toArray, List.set_cons_zero, List.set_cons_succ])
      refine take_at 6 (v := undef) rfl (by kernel_rfl) (by kernel_rfl) (by kernel_rfl) (fun _ _ _ h => h) (Or.inr ⟨by rfl, rfl⟩) (by assumption) ?_
      (try simp only [Act.put, List.setIfInBounds_toArray, List.set_cons_zero, List.set_cons_succ])
      refine take_at 7 (v := undef) rfl (by kernel_rfl) (by kernel_rfl) (by kernel_rfl) (fun _ _ _ h => h) (Or.inr ⟨by rfl, rfl⟩) (by assumption) ?_
      (try simp only [Act.put, List.setIfInBounds_toArray, List.set_cons_zero, List.set_cons_succ])
      refine take_at 8 (v := undef) rfl (by kernel_rfl) (by kernel_rfl) (by kernel_rfl) (fun _ _ _ h => h) (Or.inr ⟨by rfl, rfl⟩) (by assumption) ?_
      (try simp only [Act.put, List.setIfInBounds_toArray, List.set_cons_zero, List.set_cons_succ])
      refine take_at 9 (v := ?vv94) rfl (by kernel_rfl) (by kernel_rfl) (by kernel_rfl) (fun _ _ _ h => h) (Or.inl ⟨by rfl, ?hy94⟩) (by assumption) ?rest94
      case hy94 => intro w hSw; (try dsimp only at hSw); go_simp; (try with_reducible rfl)
      (try simp only [Act.put, List.setIfInBounds_toArray, List.set_cons_zero, List.set_cons_succ])
      refine ready_at 10 rfl (by kernel_rfl) (fun K hK => ?_)
      rw [if_pos (by rfl)]
      rw [HMC.out]
      refine wp_store_row 29 _ _ rfl w.heap.size _ rfl rfl 29 _ HRD.out.out (Rq.sizeOf X2 HXD.out) (Rq.sizes rq0 X2 rfl HXD.out) (Rq.one X2) ?_
      generalize hwZ : World.setRow _ _ _ = wZ
      have HZ : Hid (Rd w wZ w.heap.size (w.heap.size + 1) X2 X2) := Lib.hid (by rw [← hwZ]; exact HRD.out.ans X2 HXD.out)
      have HPZ : Hid (Pm wZ b qf nf cf true) := Lib.hid ((keep_row hwZ b HN0.out.1.symm).trans HP.out)
      have KB := Lib.hid (And.intro (HRG.out wZ HZ.out.own) (And.intro HPZ.out.at.1 HPZ.out.at.2.1))
      clear hwZ
      refine hK.out _ _ ?hS95 (fun hHeld => ?rest95)
      case hS95 => exact KB.out
      clear hK K
      (try simp only [Act.put, List.setIfInBounds_toArray, List.set_cons_zero, List.set_cons_succ])
      refine take_at 11 (v := ?vv96) rfl (by kernel_rfl) (by kernel_rfl) (by kernel_rfl) (fun _ _ _ h => h) (Or.inl ⟨by rfl, ?hy96⟩) (by assumption) ?rest96
      case hy96 => intro w hSw; (try dsimp only at hSw); go_simp; (try with_reducible rfl)
      (try simp only [Act.put, List.setIfInBounds_toArray, List.set_cons_zero, List.set_cons_succ])
      refine wpAnyH_done (by kernel_rfl) ?_ _
      go_wp2
      refine bodyPost_ret (HZ.out.out.res2 HZ.out.dy rfl _ rfl) rfl ?_
      exact RdW.of X2 _ (HFT.out _ HZ.out.le) HRR.out HZ.out.le HDA.out
  · have HDO := Lib.hid (digN_ok HBY.out)
    go_upto_region 21 with (first
      | (go_at_call 71; (fail_if_success (have hh := HP1)); refine (pdigest_any _ _ _ _ _ _ _ _ _ HP0.out).mono ?_; rintro e w1 ⟨rfl, ⟨q1, n1, c1, hp1⟩, hb1⟩; have HP1 := Lib.hid hp1; have HR1 := Lib.hid (HR0.out.but hb1 HN0.out.1 HN0.out.2.1 HN0.out.2.2); clear hp1 hb1)
      | (refine wpList_store_mid rfl 27 _ _ rfl (w.heap.size + 1) 2 _ rfl rfl (by rw [bcs_size, HDO.out.1]; exact Mx.there HR1.out.own 2 32 (by rw [HR1.out.dx]; simp [Rq.a, Rq.z])) (by rw [bcs_size, HDO.out.1]; exact size32) (bcs_one _) ?_; generalize hwD : World.setCells _ _ _ _ = w2; obtain ⟨X2, hX2⟩ : ∃ X, { rqK 5 with dg := digN zs } = X := ⟨_, rfl⟩; have HX2 := Lib.hid hX2; have HR2 : Hid (Rd w w2 w.heap.size (w.heap.size + 1) rq0 X2) := Lib.hid (by rw [← hwD, ← hX2]; exact HR1.out.setDg _ HDO.out.1); have HP2 := Lib.hid (HP1.out.cells hwD (fun hh => HN0.out.2.1 hh.symm) (Nat.le_succ _)); clear hwD hX2)
      | fail)
    have HFT : Hid (∀ V, Below w.heap.size w V → X2.Fit V) := Lib.hid fun V hV => by rw [← HX2.out]; exact ⟨Bs.empty _ _, fun _ => rfl, Nat.le_refl _, Nat.zero_le _, HDO.out, (Nat.zero_le 140737488355328 : (0 : Nat) ≤ 140737488355328), u64_zero, by show _ ≤ (5 : Int) ∧ (5 : Int) ≤ _; omega, i64_zero, i64_zero⟩
    have HXR : Hid (X2.rc = ⟨5, 0, digN zs, [], [], 0, 0⟩) := Lib.hid (by rw [← HX2.out]; rfl)
    have HDA : Hid (∀ V, Bs V p n zs → Bs V X2.p X2.n X2.da) := Lib.hid fun V hV => by rw [← HX2.out]; exact Bs.empty _ _
    have HRR : Hid (RdR 5 zs X2.rc (!(false || decide (zs.length < 32)) && decide (((leftN zs 32).length : Int) = 0))) := Lib.hid (by rw [HXR.out]; exact rd5 zs)
    have HLN := Lib.hid HP2.out.len
    rw [HLN.out] at HRR
    have HP := Lib.hid HP2.out.row
    have HR := HR2
    obtain ⟨xb, hxb⟩ : ∃ xb, (false || decide (zs.length < 32)) = xb := ⟨_, rfl⟩
    rw [hxb] at HRR HP
    obtain ⟨qf, hqf⟩ : ∃ y, q1 = y := ⟨_, rfl⟩
    obtain ⟨nf, hnf⟩ : ∃ y, n1 = y := ⟨_, rfl⟩
    obtain ⟨cf, hcf⟩ : ∃ y, c1 = y := ⟨_, rfl⟩
    rw [hnf] at HRR
    rw [hqf, hnf, hcf] at HP
    obtain ⟨W, hW⟩ : ∃ y, w2 = y := ⟨_, rfl⟩
    rw [hW] at HP HR ⊢
    clear hxb hqf hnf hcf
    have HXD := Lib.hid HR.out.dx
    have HLZ : Hid ((Try.prog.info? 29).map (·.size) = some (mixL X2.a X2.dg X2.z).length) := Lib.hid (by rw [mixL_length, HXD.out]; exact size38)
    have HMC := Lib.hid (show (mixL X2.a X2.dg X2.z).toArray = mixC X2.a X2.dg X2.z from rfl)
    have HRG : Hid (∀ W, Rm W (w.heap.size + 1) X2 → W.rangeAt (w.heap.size + 1) 0 (mixL X2.a X2.dg X2.z)) := Lib.hid fun W hW => Mx.range hW
    obtain ⟨L, hL⟩ : ∃ L, mixL X2.a X2.dg X2.z = L := ⟨_, rfl⟩
    rw [hL] at HLZ HMC HRG
    clear hL
    have HRD : Hid (Rd w W.drew w.heap.size (w.heap.size + 1) rq0 X2) := Lib.hid (HR.out.later (Below.refl _ _).drew)
    cases xb
    · have KA := Lib.hid (And.intro (HRG.out W HR.out.own) (And.intro HP.out.at.1 HP.out.at.2.1))
      refine wp_region_held_drew (S := (fun W => W.rangeAt (w.heap.size + 1) 0 L ∧ W.cell? ⟨b, 0, none⟩ = some (.slice qf nf cf) ∧ W.cell? ⟨b, 1, none⟩ = some (.bool false))) (by kernel_rfl) KA.out (fun hHeld => ?_)
      refine take_at 0 rfl (by kernel_rfl) (by kernel_rfl) (by kernel_rfl) (fun _ _ _ h => h) (yieldsIf_load_mid (by rfl) _ _ rfl _ _ rfl _ _ (fun _ h => h.1) Try.underlying29 rfl HLZ.out) (by assumption) ?_
      (try simp only [Act.put, List.setIfInBounds_toArray, List.set_cons_zero, List.set_cons_succ])
      refine take_at 1 (v := ?vv98) rfl (by kernel_rfl) (by kernel_rfl) (by kernel_rfl) (fun _ _ _ h => h) (Or.inl ⟨by rfl, ?hy98⟩) (by assumption) ?rest98
      case hy98 => intro w hSw; (try dsimp only at hSw); go_simp; (try with_reducible rfl)
      (try simp only [Act.put, List.setIfInBounds_toArray, List.set_cons_zero, List.set_cons_succ])
      refine take_at 2 (v := ?vv99) rfl (by kernel_rfl) (by kernel_rfl) (by kernel_rfl) (fun _ _ _ h => h) (Or.inl ⟨by rfl, ?hy99⟩) (by assumption) ?rest99
      case hy99 => intro w hSw; (try dsimp only at hSw); go_simp; (try with_reducible rfl)
      (try simp only [Act.put, List.setIfInBounds_toArray, List.set_cons_zero, List.set_cons_succ])
      refine take_at 3 (v := ?vv100) rfl (by kernel_rfl) (by kernel_rfl) (by kernel_rfl) (fun _ _ _ h => h) (Or.inl ⟨by rfl, ?hy100⟩) (by assumption) ?rest100
      case hy100 => intro w hSw; (try dsimp only at hSw); go_simp; (try with_reducible rfl)
      (try simp only [Act.put, List.setIfInBounds_toArray, List.set_cons_zero, List.set_cons_succ])
      refine take_at 4 (v := ?vv101) rfl (by kernel_rfl) (by kernel_rfl) (by kernel_rfl) (fun _ _ _ h => h) (Or.inl ⟨by rfl, ?hy101⟩) (by assumption) ?rest101
      case hy101 => intro w hSw; (try dsimp only at hSw); go_simp; (try with_reducible rfl)
      (try simp only [Act.put, List.setIfInBounds_toArray, List.set_cons_zero, List.set_cons_succ])
      refine take_at 5 (v := ?vv102) rfl (by kernel_rfl) (by kernel_rfl) (by kernel_rfl) (fun _ _ _ h => h) (Or.inl ⟨by rfl, ?hy102⟩) (by assumption) ?rest102
      case hy102 => intro w hSw; (try dsimp only at hSw); go_simp; (try with_reducible rfl)
      (try simp only [Act.put, List.setIfInBounds_toArray, List.set_cons_zero, List.set_cons_succ])
      refine take_at 6 (v := ?vv103) rfl (by kernel_rfl) (by kernel_rfl) (by kernel_rfl) (fun _ _ _ h => h) (Or.inl ⟨by rfl, ?hy103⟩) (by assumption) ?rest103
      case hy103 => intro w hSw; (try dsimp only at hSw); go_simp; (try with_reducible rfl)
      (try simp only [Act.put, List.setIfInBounds_toArray, List.set_cons_zero, List.set_cons_succ])
      refine take_at 7 (v := ?vv104) rfl (by kernel_rfl) (by kernel_rfl) (by kernel_rfl) (fun _ _ _ h => h) (Or.inl ⟨by rfl, ?hy104⟩) (by assumption) ?rest104
      case hy104 => intro w hSw; (try dsimp only at hSw); go_simp; (try with_reducible rfl)
      (try simp only [Act.put, List.setIfInBounds_toArray, List.set_cons_zero, List.set_cons_succ])
      refine take_at 8 (v := ?vv105) rfl (by kernel_rfl) (by kernel_rfl) (by kernel_rfl) (fun _ _ _ h => h) (Or.inl ⟨by rfl, ?hy105⟩) (by assumption) ?rest105
      case hy105 => intro w hSw; (try dsimp only at hSw); go_simp; (try with_reducible rfl)
      (try simp only [Act.put, List.setIfInBounds_toArray, List.set_cons_zero, List.set_cons_succ])
      refine take_at 9 (v := ?vv106) rfl (by kernel_rfl) (by kernel_rfl) (by kernel_rfl) (fun _ _ _ h => h) (Or.inl ⟨by rfl, ?hy106⟩) (by assumption) ?rest106
      case hy106 => intro w hSw; (try dsimp only at hSw); go_simp; (try with_reducible rfl)
      (try simp only [Act.put, List.setIfInBounds_toArray, List.set_cons_zero, List.set_cons_succ])
      refine ready_at 10 rfl (by kernel_rfl) (fun K hK => ?_)
      rw [if_pos (by rfl)]
      rw [HMC.out]
      refine wp_store_row 29 _ _ rfl w.heap.size _ rfl rfl 29 _ HRD.out.out (Rq.sizeOf X2 HXD.out) (Rq.sizes rq0 X2 rfl HXD.out) (Rq.one X2) ?_
      generalize hwZ : World.setRow _ _ _ = wZ
      have HZ : Hid (Rd w wZ w.heap.size (w.heap.size + 1) X2 X2) := Lib.hid (by rw [← hwZ]; exact HRD.out.ans X2 HXD.out)
      have HPZ : Hid (Pm wZ b qf nf cf false) := Lib.hid ((keep_row hwZ b HN0.out.1.symm).trans HP.out)
      have KB := Lib.hid (And.intro (HRG.out wZ HZ.out.own) (And.intro HPZ.out.at.1 HPZ.out.at.2.1))
      clear hwZ
      refine hK.out _ _ ?hS107 (fun hHeld => ?rest107)
      case hS107 => exact KB.out
      clear hK K
      (try simp only [Act.put, List.setIfInBounds_toArray, List.set_cons_zero, List.set_cons_succ])
      refine take_at 11 (v := ?vv108) rfl (by kernel_rfl) (by kernel_rfl) (by kernel_rfl) (fun _ _ _ h => h) (Or.inl ⟨by rfl, ?hy108⟩) (by assumption) ?rest108
      case hy108 => intro w hSw; (try dsimp only at hSw); go_simp; (try with_reducible rfl)
      (try simp only [Act.put, List.setIfInBounds_toArray, List.set_cons_zero, List.set_cons_succ])
      refine wpAnyH_done (by kernel_rfl) ?_ _
      go_wp2
      refine bodyPost_ret (HZ.out.out.res2 HZ.out.dy rfl _ rfl) rfl ?_
      exact RdW.of X2 _ (HFT.out _ HZ.out.le) HRR.out HZ.out.le HDA.out
    · have KA := Lib.hid (And.intro (HRG.out W HR.out.own) (And.intro HP.out.at.1 HP.out.at.2.1))
      refine wp_region_held_drew (S := (fun W => W.rangeAt (w.heap.size + 1) 0 L ∧ W.cell? ⟨b, 0, none⟩ = some (.slice qf nf cf) ∧ W.cell? ⟨b, 1, none⟩ = some (.bool true))) (by kernel_rfl) KA.out (fun hHeld => ?_)
      refine take_at 0 rfl (by kernel_rfl) (by kernel_rfl) (by kernel_rfl) (fun _ _ _ h => h) (yieldsIf_load_mid (by rfl) _ _ rfl _ _ rfl _ _ (fun _ h => h.1) Try.underlying29 rfl HLZ.out) (by assumption) ?_
      (try simp only [Act.put, List.setIfInBounds_toArray, List.set_cons_zero, List.set_cons_succ])
      refine take_at 1 (v := ?vv110) rfl (by kernel_rfl) (by kernel_rfl) (by kernel_rfl) (fun _ _ _ h => h) (Or.inl ⟨by rfl, ?hy110⟩) (by assumption) ?rest110
      case hy110 => intro w hSw; (try dsimp only at hSw); go_simp; (try with_reducible rfl)
      (try simp only [Act.put, List.setIfInBounds_toArray, List.set_cons_zero, List.set_cons_succ])
      refine take_at 2 (v := ?vv111) rfl (by kernel_rfl) (by kernel_rfl) (by kernel_rfl) (fun _ _ _ h => h) (Or.inl ⟨by rfl, ?hy111⟩) (by assumption) ?rest111
      case hy111 => intro w hSw; (try dsimp only at hSw); go_simp; (try with_reducible rfl)
      (try simp only [Act.put, List.setIfInBounds_toArray, List.set_cons_zero, List.set_cons_succ])
      refine take_at 3 (v := ?vv112) rfl (by kernel_rfl) (by kernel_rfl) (by kernel_rfl) (fun _ _ _ h => h) (Or.inl ⟨by rfl, ?hy112⟩) (by assumption) ?rest112
      case hy112 => intro w hSw; (try dsimp only at hSw); go_simp; (try with_reducible rfl)
      (try simp only [Act.put, List.setIfInBounds_toArray, List.set_cons_zero, List.set_cons_succ])
      refine take_at 4 (v := ?vv113) rfl (by kernel_rfl) (by kernel_rfl) (by kernel_rfl) (fun _ _ _ h => h) (Or.inl ⟨by rfl, ?hy113⟩) (by assumption) ?rest113
      case hy113 => intro w hSw; (try dsimp only at hSw); go_simp; (try with_reducible rfl)
      (try simp only [Act.put, List.setIfInBounds_toArray, List.set_cons_zero, List.set_cons_succ])
      refine take_at 5 (v := undef) rfl (by kernel_rfl) (by kernel_rfl) (by kernel_rfl) (fun _ _ _ h => h) (Or.inr ⟨by rfl, rfl⟩) (by assumption) ?_
      (try simp only [Act.put, List.setIfInBounds_toArray, List.set_cons_zero, List.set_cons_succ])
      refine take_at 6 (v := undef) rfl (by kernel_rfl) (by kernel_rfl) (by kernel_rfl) (fun _ _ _ h => h) (Or.inr ⟨by rfl, rfl⟩) (by assumption) ?_
      (try simp only [Act.put, List.setIfInBounds_toArray, List.set_cons_zero, List.set_cons_succ])
      refine take_at 7 (v := undef) rfl (by kernel_rfl) (by kernel_rfl) (by kernel_rfl) (fun _ _ _ h => h) (Or.inr ⟨by rfl, rfl⟩) (by assumption) ?_
      (try simp only [Act.put, List.setIfInBounds_toArray, List.set_cons_zero, List.set_cons_succ])
      refine take_at 8 (v := undef) rfl (by kernel_rfl) (by kernel_rfl) (by kernel_rfl) (fun _ _ _ h => h) (Or.inr ⟨by rfl, rfl⟩) (by assumption) ?_
      (try simp only [Act.put, List.setIfInBounds_toArray, List.set_cons_zero, List.set_cons_succ])
      refine take_at 9 (v := ?vv118) rfl (by kernel_rfl) (by kernel_rfl) (by kernel_rfl) (fun _ _ _ h => h) (Or.inl ⟨by rfl, ?hy118⟩) (by assumption) ?rest118
      case hy118 => intro w hSw; (try dsimp only at hSw); go_simp; (try with_reducible rfl)
      (try simp only [Act.put, List.setIfInBounds_toArray, List.set_cons_zero, List.set_cons_succ])
      refine ready_at 10 rfl (by kernel_rfl) (fun K hK => ?_)
      rw [if_pos (by rfl)]
      rw [HMC.out]
      refine wp_store_row 29 _ _ rfl w.heap.size _ rfl rfl 29 _ HRD.out.out (Rq.sizeOf X2 HXD.out) (Rq.sizes rq0 X2 rfl HXD.out) (Rq.one X2) ?_
      generalize hwZ : World.setRow _ _ _ = wZ
      have HZ : Hid (Rd w wZ w.heap.size (w.heap.size + 1) X2 X2) := Lib.hid (by rw [← hwZ]; exact HRD.out.ans X2 HXD.out)
      have HPZ : Hid (Pm wZ b qf nf cf true) := Lib.hid ((keep_row hwZ b HN0.out.1.symm).trans HP.out)
      have KB := Lib.hid (And.intro (HRG.out wZ HZ.out.own) (And.intro HPZ.out.at.1 HPZ.out.at.2.1))
      clear hwZ
      refine hK.out _ _ ?hS119 (fun hHeld => ?rest119)
      case hS119 => exact KB.out
      clear hK K
      (try simp only [Act.put, List.setIfInBounds_toArray, List.set_cons_zero, List.set_cons_succ])
      refine take_at 11 (v := ?vv120) rfl (by kernel_rfl) (by kernel_rfl) (by kernel_rfl) (fun _ _ _ h => h) (Or.inl ⟨by rfl, ?hy120⟩) (by assumption) ?rest120
      case hy120 => intro w hSw; (try dsimp only at hSw); go_simp; (try with_reducible rfl)
      (try simp only [Act.put, List.setIfInBounds_toArray, List.set_cons_zero, List.set_cons_succ])
      refine wpAnyH_done (by kernel_rfl) ?_ _
      go_wp2
      refine bodyPost_ret (HZ.out.out.res2 HZ.out.dy rfl _ rfl) rfl ?_
      exact RdW.of X2 _ (HFT.out _ HZ.out.le) HRR.out HZ.out.le HDA.out
  · skip
    go_upto_region 21 with (first
      | (go_at_call 73; (fail_if_success (have hh := HP1)); refine (pnumber_any _ _ _ _ _ _ _ _ 4 _ HP0.out (by omega)).mono ?_; rintro e w1 ⟨rfl, ⟨q1, n1, c1, hp1⟩, hb1⟩; have HP1 := Lib.hid hp1; have HR1 := Lib.hid (HR0.out.but hb1 HN0.out.1 HN0.out.2.1 HN0.out.2.2); clear hp1 hb1; have cl1 := (HR1.out.own.cells HR1.out.dx).2.2.2.2.1; have fr1 := HR1.out.own.frozen 36; obtain ⟨w2, hw2⟩ : ∃ W, w1.setCell ⟨w.heap.size + 1, 36, none⟩ (.int .i64 (numN (zs) 4)) = W := ⟨_, rfl⟩; obtain ⟨X2, hX2⟩ : ∃ X, { rqK 6 with N := numN (zs) 4 } = X := ⟨_, rfl⟩; have HX2 := Lib.hid hX2; have HR2 : Hid (Rd w w2 w.heap.size (w.heap.size + 1) rq0 X2) := Lib.hid (by rw [← hw2, ← hX2]; exact HR1.out.setN _); have HP2 := Lib.hid (HP1.out.cell hw2 (fun hh => HN0.out.2.1 hh.symm) (Nat.le_succ _)); clear hX2)
      | (go_at_call 73; (fail_if_success (have hh := HP3)); refine (pnumber_any _ _ _ _ _ _ _ _ 4 _ HP2.out (by omega)).mono ?_; rintro e w3 ⟨rfl, ⟨q3, n3, c3, hp3⟩, hb3⟩; have HP3 := Lib.hid hp3; have HR3 := Lib.hid (HR2.out.but hb3 HN0.out.1 HN0.out.2.1 HN0.out.2.2); clear hp3 hb3; have cl3 := (HR3.out.own.cells HR3.out.dx).2.2.2.2.2; have fr3 := HR3.out.own.frozen 37; obtain ⟨w4, hw4⟩ : ∃ W, w3.setCell ⟨w.heap.size + 1, 37, none⟩ (.int .i64 (numN (leftN zs 4) 4)) = W := ⟨_, rfl⟩; obtain ⟨X4, hX4⟩ : ∃ X, { X2 with Z := numN (leftN zs 4) 4 } = X := ⟨_, rfl⟩; have HX4 := Lib.hid hX4; have HR4 : Hid (Rd w w4 w.heap.size (w.heap.size + 1) rq0 X4) := Lib.hid (by rw [← hw4, ← hX4]; exact HR3.out.setZ _); have HP4 := Lib.hid (HP3.out.cell hw4 (fun hh => HN0.out.2.1 hh.symm) (Nat.le_succ _)); clear hX4)
      | fail)
    have HFT : Hid (∀ V, Below w.heap.size w V → X4.Fit V) := Lib.hid fun V hV => by rw [← HX4.out, ← HX2.out]; exact ⟨Bs.empty _ _, fun _ => rfl, Nat.le_refl _, Nat.zero_le _, dok_zero, (Nat.zero_le 140737488355328 : (0 : Nat) ≤ 140737488355328), u64_zero, by show _ ≤ (6 : Int) ∧ (6 : Int) ≤ _; omega, numN_bd _ _, numN_bd _ _⟩
    have HXR : Hid (X4.rc = ⟨6, 0, dg0, [], [], numN zs 4, numN (leftN zs 4) 4⟩) := Lib.hid (by rw [← HX4.out, ← HX2.out]; rfl)
    have HDA : Hid (∀ V, Bs V p n zs → Bs V X4.p X4.n X4.da) := Lib.hid fun V hV => by rw [← HX4.out, ← HX2.out]; exact Bs.empty _ _
    have HRR : Hid (RdR 6 zs X4.rc (!((false || decide (zs.length < 4)) || decide ((leftN zs 4).length < 4)) && decide (((leftN (leftN zs 4) 4).length : Int) = 0))) := Lib.hid (by rw [HXR.out]; exact rd68 (k := 6) (by omega) zs HBY.out)
    have HLN := Lib.hid HP4.out.len
    rw [HLN.out] at HRR
    have HP := Lib.hid HP4.out.row
    have HR := HR4
    obtain ⟨xb, hxb⟩ : ∃ xb, ((false || decide (zs.length < 4)) || decide ((leftN zs 4).length < 4)) = xb := ⟨_, rfl⟩
    rw [hxb] at HRR HP
    obtain ⟨qf, hqf⟩ : ∃ y, q3 = y := ⟨_, rfl⟩
    obtain ⟨nf, hnf⟩ : ∃ y, n3 = y := ⟨_, rfl⟩
    obtain ⟨cf, hcf⟩ : ∃ y, c3 = y := ⟨_, rfl⟩
    rw [hnf] at HRR
    rw [hqf, hnf, hcf] at HP
    obtain ⟨W, hW⟩ : ∃ y, w4 = y := ⟨_, rfl⟩
    rw [hW] at HP HR ⊢
    clear hxb hqf hnf hcf
    have HXD := Lib.hid HR.out.dx
    have HLZ : Hid ((Try.prog.info? 29).map (·.size) = some (mixL X4.a X4.dg X4.z).length) := Lib.hid (by rw [mixL_length, HXD.out]; exact size38)
    have HMC := Lib.hid (show (mixL X4.a X4.dg X4.z).toArray = mixC X4.a X4.dg X4.z from rfl)
    have HRG : Hid (∀ W, Rm W (w.heap.size + 1) X4 → W.rangeAt (w.heap.size + 1) 0 (mixL X4.a X4.dg X4.z)) := Lib.hid fun W hW => Mx.range hW
    obtain ⟨L, hL⟩ : ∃ L, mixL X4.a X4.dg X4.z = L := ⟨_, rfl⟩
    rw [hL] at HLZ HMC HRG
    clear hL
    have HRD : Hid (Rd w W.drew w.heap.size (w.heap.size + 1) rq0 X4) := Lib.hid (HR.out.later (Below.refl _ _).drew)
    cases xb
    · have KA := Lib.hid (And.intro (HRG.out W HR.out.own) (And.intro HP.out.at.1 HP.out.at.2.1))
      refine wp_region_held_drew (S := (fun W => W.rangeAt (w.heap.size + 1) 0 L ∧ W.cell? ⟨b, 0, none⟩ = some (.slice qf nf cf) ∧ W.cell? ⟨b, 1, none⟩ = some (.bool false))) (by kernel_rfl) KA.out (fun hHeld => ?_)
      refine take_at 0 rfl (by kernel_rfl) (by kernel_rfl) (by kernel_rfl) (fun _ _ _ h => h) (yieldsIf_load_mid (by rfl) _ _ rfl _ _ rfl _ _ (fun _ h => h.1) Try.underlying29 rfl HLZ.out) (by assumption) ?_
      (try simp only [Act.put, List.setIfInBounds_toArray, List.set_cons_zero, List.set_cons_succ])
      refine take_at 1 (v := ?vv122) rfl (by kernel_rfl) (by kernel_rfl) (by kernel_rfl) (fun _ _ _ h => h) (Or.inl ⟨by rfl, ?hy122⟩) (by assumption) ?rest122
      case hy122 => intro w hSw; (try dsimp only at hSw); go_simp; (try with_reducible rfl)
      (try simp only [Act.put, List.setIfInBounds_toArray, List.set_cons_zero, List.set_cons_succ])
      refine take_at 2 (v := ?vv123) rfl (by kernel_rfl) (by kernel_rfl) (by kernel_rfl) (fun _ _ _ h => h) (Or.inl ⟨by rfl, ?hy123⟩) (by assumption) ?rest123
      case hy123 => intro w hSw; (try dsimp only at hSw); go_simp; (try with_reducible rfl)
      (try simp only [Act.put, List.setIfInBounds_toArray, List.set_cons_zero, List.set_cons_succ])
      refine take_at 3 (v := ?vv124) rfl (by kernel_rfl) (by kernel_rfl) (by kernel_rfl) (fun _ _ _ h => h) (Or.inl ⟨by rfl, ?hy124⟩) (by assumption) ?rest124
      case hy124 => intro w hSw; (try dsimp only at hSw); go_simp; (try with_reducible rfl)
      (try simp only [Act.put, List.setIfInBounds_toArray, List.set_cons_zero, List.set_cons_succ])
      refine take_at 4 (v := ?vv125) rfl (by kernel_rfl) (by kernel_rfl) (by kernel_rfl) (fun _ _ _ h => h) (Or.inl ⟨by rfl, ?hy125⟩) (by assumption) ?rest125
      case hy125 => intro w hSw; (try dsimp only at hSw); go_simp; (try with_reducible rfl)
      (try simp only [Act.put, List.setIfInBounds_toArray, List.set_cons_zero, List.set_cons_succ])
      refine take_at 5 (v := ?vv126) rfl (by kernel_rfl) (by kernel_rfl) (by kernel_rfl) (fun _ _ _ h => h) (Or.inl ⟨by rfl, ?hy126⟩) (by assumption) ?rest126
      case hy126 => intro w hSw; (try dsimp only at hSw); go_simp; (try with_reducible rfl)
      (try simp only [Act.put, List.setIfInBounds_toArray, List.set_cons_zero, List.set_cons_succ])
      refine take_at 6 (v := ?vv127) rfl (by kernel_rfl) (by kernel_rfl) (by kernel_rfl) (fun _ _ _ h => h) (Or.inl ⟨by rfl, ?hy127⟩) (by assumption) ?rest127
      case hy127 => intro w hSw; (try dsimp only at hSw); go_simp; (try with_reducible rfl)
      (try simp only [Act.put, List.setIfInBounds_toArray, List.set_cons_zero, List.set_cons_succ])
      refine take_at 7 (v := ?vv128) rfl (by kernel_rfl) (by kernel_rfl) (by kernel_rfl) (fun _ _ _ h => h) (Or.inl ⟨by rfl, ?hy128⟩) (by assumption) ?rest128
      case hy128 => intro w hSw; (try dsimp only at hSw); go_simp; (try with_reducible rfl)
      (try simp only [Act.put, List.setIfInBounds_toArray, List.set_cons_zero, List.set_cons_succ])
      refine take_at 8 (v := ?vv129) rfl (by kernel_rfl) (by kernel_rfl) (by kernel_rfl) (fun _ _ _ h => h) (Or.inl ⟨by rfl, ?hy129⟩) (by assumption) ?rest129
      case hy129 => intro w hSw; (try dsimp only at hSw); go_simp; (try with_reducible rfl)
      (try simp only [Act.put, List.setIfInBounds_toArray, List.set_cons_zero, List.set_cons_succ])
      refine take_at 9 (v := ?vv130) rfl (by kernel_rfl) (by kernel_rfl) (by kernel_rfl) (fun _ _ _ h => h) (Or.inl ⟨by rfl, ?hy130⟩) (by assumption) ?rest130
      case hy130 => intro w hSw; (try dsimp only at hSw); go_simp; (try with_reducible rfl)
      (try simp only [Act.put, List.setIfInBounds_toArray, List.set_cons_zero, List.set_cons_succ])
      refine ready_at 10 rfl (by kernel_rfl) (fun K hK => ?_)
      rw [if_pos (by rfl)]
      rw [HMC.out]
      refine wp_store_row 29 _ _ rfl w.heap.size _ rfl rfl 29 _ HRD.out.out (Rq.sizeOf X4 HXD.out) (Rq.sizes rq0 X4 rfl HXD.out) (Rq.one X4) ?_
      generalize hwZ : World.setRow _ _ _ = wZ
      have HZ : Hid (Rd w wZ w.heap.size (w.heap.size + 1) X4 X4) := Lib.hid (by rw [← hwZ]; exact HRD.out.ans X4 HXD.out)
      have HPZ : Hid (Pm wZ b qf nf cf false) := Lib.hid ((keep_row hwZ b HN0.out.1.symm).trans HP.out)
      have KB := Lib.hid (And.intro (HRG.out wZ HZ.out.own) (And.intro HPZ.out.at.1 HPZ.out.at.2.1))
      clear hwZ
      refine hK.out _ _ ?hS131 (fun hHeld => ?rest131)
      case hS131 => exact KB.out
      clear hK K
      (try simp only [Act.put, List.setIfInBounds_toArray, List.set_cons_zero, List.set_cons_succ])
      refine take_at 11 (v := ?vv132) rfl (by kernel_rfl) (by kernel_rfl) (by kernel_rfl) (fun _ _ _ h => h) (Or.inl ⟨by rfl, ?hy132⟩) (by assumption) ?rest132
      case hy132 => intro w hSw; (try dsimp only at hSw); go_simp; (try with_reducible rfl)
      (try simp only [Act.put, List.setIfInBounds_toArray, List.set_cons_zero, List.set_cons_succ])
      refine wpAnyH_done (by kernel_rfl) ?_ _
      go_wp2
      refine bodyPost_ret (HZ.out.out.res2 HZ.out.dy rfl _ rfl) rfl ?_
      exact RdW.of X4 _ (HFT.out _ HZ.out.le) HRR.out HZ.out.le HDA.out
    · have KA := Lib.hid (And.intro (HRG.out W HR.out.own) (And.intro HP.out.at.1 HP.out.at.2.1))
      refine wp_region_held_drew (S := (fun W => W.rangeAt (w.heap.size + 1) 0 L ∧ W.cell? ⟨b, 0, none⟩ = some (.slice qf nf cf) ∧ W.cell? ⟨b, 1, none⟩ = some (.bool true))) (by kernel_rfl) KA.out (fun hHeld => ?_)
      refine take_at 0 rfl (by kernel_rfl) (by kernel_rfl) (by kernel_rfl) (fun _ _ _ h => h) (yieldsIf_load_mid (by rfl) _ _ rfl _ _ rfl _ _ (fun _ h => h.1) Try.underlying29 rfl HLZ.out) (by assumption) ?_
      (try simp only [Act.put, List.setIfInBounds_toArray, List.set_cons_zero, List.set_cons_succ])
      refine take_at 1 (v := ?vv134) rfl (by kernel_rfl) (by kernel_rfl) (by kernel_rfl) (fun _ _ _ h => h) (Or.inl ⟨by rfl, ?hy134⟩) (by assumption) ?rest134
      case hy134 => intro w hSw; (try dsimp only at hSw); go_simp; (try with_reducible rfl)
      (try simp only [Act.put, List.setIfInBounds_toArray, List.set_cons_zero, List.set_cons_succ])
      refine take_at 2 (v := ?vv135) rfl (by kernel_rfl) (by kernel_rfl) (by kernel_rfl) (fun _ _ _ h => h) (Or.inl ⟨by rfl, ?hy135⟩) (by assumption) ?rest135
      case hy135 => intro w hSw; (try dsimp only at hSw); go_simp; (try with_reducible rfl)
      (try simp only [Act.put, List.setIfInBounds_toArray, List.set_cons_zero, List.set_cons_succ])
      refine take_at 3 (v := ?vv136) rfl (by kernel_rfl) (by kernel_rfl) (by kernel_rfl) (fun _ _ _ h => h) (Or.inl ⟨by rfl, ?hy136⟩) (by assumption) ?rest136
      case hy136 => intro w hSw; (try dsimp only at hSw); go_simp; (try with_reducible rfl)
      (try simp only [Act.put, List.setIfInBounds_toArray, List.set_cons_zero, List.set_cons_succ])
      refine take_at 4 (v := ?vv137) rfl (by kernel_rfl) (by kernel_rfl) (by kernel_rfl) (fun _ _ _ h => h) (Or.inl ⟨by rfl, ?hy137⟩) (by assumption) ?rest137
      case hy137 => intro w hSw; (try dsimp only at hSw); go_simp; (try with_reducible rfl)
      (try simp only [Act.put, List.setIfInBounds_toArray, List.set_cons_zero, List.set_cons_succ])
      refine take_at 5 (v := undef) rfl (by kernel_rfl) (by kernel_rfl) (by kernel_rfl) (fun _ _ _ h => h) (Or.inr ⟨by rfl, rfl⟩) (by assumption) ?_
      (try simp only [Act.put, List.setIfInBounds_toArray, List.set_cons_zero, List.set_cons_succ])
      refine take_at 6 (v := undef) rfl (by kernel_rfl) (by kernel_rfl) (by kernel_rfl) (fun _ _ _ h => h) (Or.inr ⟨by rfl, rfl⟩) (by assumption) ?_
      (try simp only [Act.put, List.setIfInBounds_toArray, List.set_cons_zero, List.set_cons_succ])
      refine take_at 7 (v := undef) rfl (by kernel_rfl) (by kernel_rfl) (by kernel_rfl) (fun _ _ _ h => h) (Or.inr ⟨by rfl, rfl⟩) (by assumption) ?_
      (try simp only [Act.put, List.setIfInBounds_toArray, List.set_cons_zero, List.set_cons_succ])
      refine take_at 8 (v := undef) rfl (by kernel_rfl) (by kernel_rfl) (by kernel_rfl) (fun _ _ _ h => h) (Or.inr ⟨by rfl, rfl⟩) (by assumption) ?_
      (try simp only [Act.put, List.setIfInBounds_toArray, List.set_cons_zero, List.set_cons_succ])
      refine take_at 9 (v := ?vv142) rfl (by kernel_rfl) (by kernel_rfl) (by kernel_rfl) (fun _ _ _ h => h) (Or.inl ⟨by rfl, ?hy142⟩) (by assumption) ?rest142
      case hy142 => intro w hSw; (try dsimp only at hSw); go_simp; (try with_reducible rfl)
      (try simp only [Act.put, List.setIfInBounds_toArray, List.set_cons_zero, List.set_cons_succ])
      refine ready_at 10 rfl (by kernel_rfl) (fun K hK => ?_)
      rw [if_pos (by rfl)]
      rw [HMC.out]
      refine wp_store_row 29 _ _ rfl w.heap.size _ rfl rfl 29 _ HRD.out.out (Rq.sizeOf X4 HXD.out) (Rq.sizes rq0 X4 rfl HXD.out) (Rq.one X4) ?_
      generalize hwZ : World.setRow _ _ _ = wZ
      have HZ : Hid (Rd w wZ w.heap.size (w.heap.size + 1) X4 X4) := Lib.hid (by rw [← hwZ]; exact HRD.out.ans X4 HXD.out)
      have HPZ : Hid (Pm wZ b qf nf cf true) := Lib.hid ((keep_row hwZ b HN0.out.1.symm).trans HP.out)
      have KB := Lib.hid (And.intro (HRG.out wZ HZ.out.own) (And.intro HPZ.out.at.1 HPZ.out.at.2.1))
      clear hwZ
      refine hK.out _ _ ?hS143 (fun hHeld => ?rest143)
      case hS143 => exact KB.out
      clear hK K
      (try simp only [Act.put, List.setIfInBounds_toArray, List.set_cons_zero, List.set_cons_succ])
      refine take_at 11 (v := ?vv144) rfl (by kernel_rfl) (by kernel_rfl) (by kernel_rfl) (fun _ _ _ h => h) (Or.inl ⟨by rfl, ?hy144⟩) (by assumption) ?rest144
      case hy144 => intro w hSw; (try dsimp only at hSw); go_simp; (try with_reducible rfl)
      (try simp only [Act.put, List.setIfInBounds_toArray, List.set_cons_zero, List.set_cons_succ])
      refine wpAnyH_done (by kernel_rfl) ?_ _
      go_wp2
      refine bodyPost_ret (HZ.out.out.res2 HZ.out.dy rfl _ rfl) rfl ?_
      exact RdW.of X4 _ (HFT.out _ HZ.out.le) HRR.out HZ.out.le HDA.out
  · skip
    go_upto_region 21 with (first
      | (go_at_call 74; (fail_if_success (have hh := HP1)); refine (pmark_any _ _ _ _ _ _ _ _ _ HP0.out).mono ?_; rintro e w1 ⟨rfl, ⟨q1, n1, c1, hp1⟩, hb1⟩; have HP1 := Lib.hid hp1; have HR1 := Lib.hid (HR0.out.but hb1 HN0.out.1 HN0.out.2.1 HN0.out.2.2); clear hp1 hb1)
      | (go_at_call 73; (fail_if_success (have hh := HP2)); refine (pnumber_any _ _ _ _ _ _ _ _ 8 _ HP1.out (by omega)).mono ?_; rintro e w2 ⟨rfl, ⟨q2, n2, c2, hp2⟩, hb2⟩; have HP2 := Lib.hid hp2; have HR2 := Lib.hid (HR1.out.but hb2 HN0.out.1 HN0.out.2.1 HN0.out.2.2); clear hp2 hb2; have cl2 := (HR2.out.own.cells HR2.out.dx).2.2.2.2.1; have fr2 := HR2.out.own.frozen 36; obtain ⟨w3, hw3⟩ : ∃ W, w2.setCell ⟨w.heap.size + 1, 36, none⟩ (.int .i64 (numN (leftN zs 8) 8)) = W := ⟨_, rfl⟩; obtain ⟨X3, hX3⟩ : ∃ X, { rqK 7 with N := numN (leftN zs 8) 8 } = X := ⟨_, rfl⟩; have HX3 := Lib.hid hX3; have HR3 : Hid (Rd w w3 w.heap.size (w.heap.size + 1) rq0 X3) := Lib.hid (by rw [← hw3, ← hX3]; exact HR2.out.setN _); have HP3 := Lib.hid (HP2.out.cell hw3 (fun hh => HN0.out.2.1 hh.symm) (Nat.le_succ _)); clear hX3)
      | fail)
    have HFT : Hid (∀ V, Below w.heap.size w V → X3.Fit V) := Lib.hid fun V hV => by rw [← HX3.out]; exact ⟨Bs.empty _ _, fun _ => rfl, Nat.le_refl _, Nat.zero_le _, dok_zero, (Nat.zero_le 140737488355328 : (0 : Nat) ≤ 140737488355328), u64_zero, by show _ ≤ (7 : Int) ∧ (7 : Int) ≤ _; omega, numN_bd _ _, i64_zero⟩
    have HXR : Hid (X3.rc = ⟨7, 0, dg0, [], [], numN (leftN zs 8) 8, 0⟩) := Lib.hid (by rw [← HX3.out]; rfl)
    have HDA : Hid (∀ V, Bs V p n zs → Bs V X3.p X3.n X3.da) := Lib.hid fun V hV => by rw [← HX3.out]; exact Bs.empty _ _
    have HRR : Hid (RdR 7 zs X3.rc (!(((false || decide (zs.length < 8)) || decide (gotN zs 8 ≠ magN)) || decide ((leftN zs 8).length < 8)) && decide (((leftN (leftN zs 8) 8).length : Int) = 0))) := Lib.hid (by rw [HXR.out]; exact rd7 zs HBY.out)
    have HLN := Lib.hid HP3.out.len
    rw [HLN.out] at HRR
    have HP := Lib.hid HP3.out.row
    have HR := HR3
    obtain ⟨xb, hxb⟩ : ∃ xb, (((false || decide (zs.length < 8)) || decide (gotN zs 8 ≠ magN)) || decide ((leftN zs 8).length < 8)) = xb := ⟨_, rfl⟩
    rw [hxb] at HRR HP
    obtain ⟨qf, hqf⟩ : ∃ y, q2 = y := ⟨_, rfl⟩
    obtain ⟨nf, hnf⟩ : ∃ y, n2 = y := ⟨_, rfl⟩
    obtain ⟨cf, hcf⟩ : ∃ y, c2 = y := ⟨_, rfl⟩
    rw [hnf] at HRR
    rw [hqf, hnf, hcf] at HP
    obtain ⟨W, hW⟩ : ∃ y, w3 = y := ⟨_, rfl⟩
    rw [hW] at HP HR ⊢
    clear hxb hqf hnf hcf
    have HXD := Lib.hid HR.out.dx
    have HLZ : Hid ((Try.prog.info? 29).map (·.size) = some (mixL X3.a X3.dg X3.z).length) := Lib.hid (by rw [mixL_length, HXD.out]; exact size38)
    have HMC := Lib.hid (show (mixL X3.a X3.dg X3.z).toArray = mixC X3.a X3.dg X3.z from rfl)
    have HRG : Hid (∀ W, Rm W (w.heap.size + 1) X3 → W.rangeAt (w.heap.size + 1) 0 (mixL X3.a X3.dg X3.z)) := Lib.hid fun W hW => Mx.range hW
    obtain ⟨L, hL⟩ : ∃ L, mixL X3.a X3.dg X3.z = L := ⟨_, rfl⟩
    rw [hL] at HLZ HMC HRG
    clear hL
    have HRD : Hid (Rd w W.drew w.heap.size (w.heap.size + 1) rq0 X3) := Lib.hid (HR.out.later (Below.refl _ _).drew)
    cases xb
    · have KA := Lib.hid (And.intro (HRG.out W HR.out.own) (And.intro HP.out.at.1 HP.out.at.2.1))
      refine wp_region_held_drew (S := (fun W => W.rangeAt (w.heap.size + 1) 0 L ∧ W.cell? ⟨b, 0, none⟩ = some (.slice qf nf cf) ∧ W.cell? ⟨b, 1, none⟩ = some (.bool false))) (by kernel_rfl) KA.out (fun hHeld => ?_)
      refine take_at 0 rfl (by kernel_rfl) (by kernel_rfl) (by kernel_rfl) (fun _ _ _ h => h) (yieldsIf_load_mid (by rfl) _ _ rfl _ _ rfl _ _ (fun _ h => h.1) Try.underlying29 rfl HLZ.out) (by assumption) ?_
      (try simp only [Act.put, List.setIfInBounds_toArray, List.set_cons_zero, List.set_cons_succ])
      refine take_at 1 (v := ?vv146) rfl (by kernel_rfl) (by kernel_rfl) (by kernel_rfl) (fun _ _ _ h => h) (Or.inl ⟨by rfl, ?hy146⟩) (by assumption) ?rest146
      case hy146 => intro w hSw; (try dsimp only at hSw); go_simp; (try with_reducible rfl)
      (try simp only [Act.put, List.setIfInBounds_toArray, List.set_cons_zero, List.set_cons_succ])
      refine take_at 2 (v := ?vv147) rfl (by kernel_rfl) (by kernel_rfl) (by kernel_rfl) (fun _ _ _ h => h) (Or.inl ⟨by rfl, ?hy147⟩) (by assumption) ?rest147
      case hy147 => intro w hSw; (try dsimp only at hSw); go_simp; (try with_reducible rfl)
      (try simp only [Act.put, List.setIfInBounds_toArray, List.set_cons_zero, List.set_cons_succ])
      refine take_at 3 (v := ?vv148) rfl (by kernel_rfl) (by kernel_rfl) (by kernel_rfl) (fun _ _ _ h => h) (Or.inl ⟨by rfl, ?hy148⟩) (by assumption) ?rest148
      case hy148 => intro w hSw; (try dsimp only at hSw); go_simp; (try with_reducible rfl)
      (try simp only [Act.put, List.setIfInBounds_toArray, List.set_cons_zero, List.set_cons_succ])
      refine take_at 4 (v := ?vv149) rfl (by kernel_rfl) (by kernel_rfl) (by kernel_rfl) (fun _ _ _ h => h) (Or.inl ⟨by rfl, ?hy149⟩) (by assumption) ?rest149
      case hy149 => intro w hSw; (try dsimp only at hSw); go_simp; (try with_reducible rfl)
      (try simp only [Act.put, List.setIfInBounds_toArray, List.set_cons_zero, List.set_cons_succ])
      refine take_at 5 (v := ?vv150) rfl (by kernel_rfl) (by kernel_rfl) (by kernel_rfl) (fun _ _ _ h => h) (Or.inl ⟨by rfl, ?hy150⟩) (by assumption) ?rest150
      case hy150 => intro w hSw; (try dsimp only at hSw); go_simp; (try with_reducible rfl)
      (try simp only [Act.put, List.setIfInBounds_toArray, List.set_cons_zero, List.set_cons_succ])
      refine take_at 6 (v := ?vv151) rfl (by kernel_rfl) (by kernel_rfl) (by kernel_rfl) (fun _ _ _ h => h) (Or.inl ⟨by rfl, ?hy151⟩) (by assumption) ?rest151
      case hy151 => intro w hSw; (try dsimp only at hSw); go_simp; (try with_reducible rfl)
      (try simp only [Act.put, List.setIfInBounds_toArray, List.set_cons_zero, List.set_cons_succ])
      refine take_at 7 (v := ?vv152) rfl (by kernel_rfl) (by kernel_rfl) (by kernel_rfl) (fun _ _ _ h => h) (Or.inl ⟨by rfl, ?hy152⟩) (by assumption) ?rest152
      case hy152 => intro w hSw; (try dsimp only at hSw); go_simp; (try with_reducible rfl)
      (try simp only [Act.put, List.setIfInBounds_toArray, List.set_cons_zero, List.set_cons_succ])
      refine take_at 8 (v := ?vv153) rfl (by kernel_rfl) (by kernel_rfl) (by kernel_rfl) (fun _ _ _ h => h) (Or.inl ⟨by rfl, ?hy153⟩) (by assumption) ?rest153
      case hy153 => intro w hSw; (try dsimp only at hSw); go_simp; (try with_reducible rfl)
      (try simp only [Act.put, List.setIfInBounds_toArray, List.set_cons_zero, List.set_cons_succ])
      refine take_at 9 (v := ?vv154) rfl (by kernel_rfl) (by kernel_rfl) (by kernel_rfl) (fun _ _ _ h => h) (Or.inl ⟨by rfl, ?hy154⟩) (by assumption) ?rest154
      case hy154 => intro w hSw; (try dsimp only at hSw); go_simp; (try with_reducible rfl)
      (try simp only [Act.put, List.setIfInBounds_toArray, List.set_cons_zero, List.set_cons_succ])
      refine ready_at 10 rfl (by kernel_rfl) (fun K hK => ?_)
      rw [if_pos (by rfl)]
      rw [HMC.out]
      refine wp_store_row 29 _ _ rfl w.heap.size _ rfl rfl 29 _ HRD.out.out (Rq.sizeOf X3 HXD.out) (Rq.sizes rq0 X3 rfl HXD.out) (Rq.one X3) ?_
      generalize hwZ : World.setRow _ _ _ = wZ
      have HZ : Hid (Rd w wZ w.heap.size (w.heap.size + 1) X3 X3) := Lib.hid (by rw [← hwZ]; exact HRD.out.ans X3 HXD.out)
      have HPZ : Hid (Pm wZ b qf nf cf false) := Lib.hid ((keep_row hwZ b HN0.out.1.symm).trans HP.out)
      have KB := Lib.hid (And.intro (HRG.out wZ HZ.out.own) (And.intro HPZ.out.at.1 HPZ.out.at.2.1))
      clear hwZ
      refine hK.out _ _ ?hS155 (fun hHeld => ?rest155)
      case hS155 => exact KB.out
      clear hK K
      (try simp only [Act.put, List.setIfInBounds_toArray, List.set_cons_zero, List.set_cons_succ])
      refine take_at 11 (v := ?vv156) rfl (by kernel_rfl) (by kernel_rfl) (by kernel_rfl) (fun _ _ _ h => h) (Or.inl ⟨by rfl, ?hy156⟩) (by assumption) ?rest156
      case hy156 => intro w hSw; (try dsimp only at hSw); go_simp; (try with_reducible rfl)
      (try simp only [Act.put, List.setIfInBounds_toArray, List.set_cons_zero, List.set_cons_succ])
      refine wpAnyH_done (by kernel_rfl) ?_ _
      go_wp2
      refine bodyPost_ret (HZ.out.out.res2 HZ.out.dy rfl _ rfl) rfl ?_
      exact RdW.of X3 _ (HFT.out _ HZ.out.le) HRR.out HZ.out.le HDA.out
    · have KA := Lib.hid (And.intro (HRG.out W HR.out.own) (And.intro HP.out.at.1 HP.out.at.2.1))
      refine wp_region_held_drew (S := (fun W => W.rangeAt (w.heap.size + 1) 0 L ∧ W.cell? ⟨b, 0, none⟩ = some (.slice qf nf cf) ∧ W.cell? ⟨b, 1, none⟩ = some (.bool true))) (by kernel_rfl) KA.out (fun hHeld => ?_)
      refine take_at 0 rfl (by kernel_rfl) (by kernel_rfl) (by kernel_rfl) (fun _ _ _ h => h) (yieldsIf_load_mid (by rfl) _ _ rfl _ _ rfl _ _ (fun _ h => h.1) Try.underlying29 rfl HLZ.out) (by assumption) ?_
      (try simp only [Act.put, List.setIfInBounds_toArray, List.set_cons_zero, List.set_cons_succ])
      refine take_at 1 (v := ?vv158) rfl (by kernel_rfl) (by kernel_rfl) (by kernel_rfl) (fun _ _ _ h => h) (Or.inl ⟨by rfl, ?hy158⟩) (by assumption) ?rest158
      case hy158 => intro w hSw; (try dsimp only at hSw); go_simp; (try with_reducible rfl)
      (try simp only [Act.put, List.setIfInBounds_toArray, List.set_cons_zero, List.set_cons_succ])
      refine take_at 2 (v := ?vv159) rfl (by kernel_rfl) (by kernel_rfl) (by kernel_rfl) (fun _ _ _ h => h) (Or.inl ⟨by rfl, ?hy159⟩) (by assumption) ?rest159
      case hy159 => intro w hSw; (try dsimp only at hSw); go_simp; (try with_reducible rfl)
      (try simp only [Act.put, List.setIfInBounds_toArray, List.set_cons_zero, List.set_cons_succ])
      refine take_at 3 (v := ?vv160) rfl (by kernel_rfl) (by kernel_rfl) (by kernel_rfl) (fun _ _ _ h => h) (Or.inl ⟨by rfl, ?hy160⟩) (by assumption) ?rest160
      case hy160 => intro w hSw; (try dsimp only at hSw); go_simp; (try with_reducible rfl)
      (try simp only [Act.put, List.setIfInBounds_toArray, List.set_cons_zero, List.set_cons_succ])
      refine take_at 4 (v := ?vv161) rfl (by kernel_rfl) (by kernel_rfl) (by kernel_rfl) (fun _ _ _ h => h) (Or.inl ⟨by rfl, ?hy161⟩) (by assumption) ?rest161
      case hy161 => intro w hSw; (try dsimp only at hSw); go_simp; (try with_reducible rfl)
      (try simp only [Act.put, List.setIfInBounds_toArray, List.set_cons_zero, List.set_cons_succ])
      refine take_at 5 (v := undef) rfl (by kernel_rfl) (by kernel_rfl) (by kernel_rfl) (fun _ _ _ h => h) (Or.inr ⟨by rfl, rfl⟩) (by assumption) ?_
      (try simp only [Act.put, List.setIfInBounds_toArray, List.set_cons_zero, List.set_cons_succ])
      refine take_at 6 (v := undef) rfl (by kernel_rfl) (by kernel_rfl) (by kernel_rfl) (fun _ _ _ h => h) (Or.inr ⟨by rfl, rfl⟩) (by assumption) ?_
      (try simp only [Act.put, List.setIfInBounds_toArray, List.set_cons_zero, List.set_cons_succ])
      refine take_at 7 (v := undef) rfl (by kernel_rfl) (by kernel_rfl) (by kernel_rfl) (fun _ _ _ h => h) (Or.inr ⟨by rfl, rfl⟩) (by assumption) ?_
      (try simp only [Act.put, List.setIfInBounds_toArray, List.set_cons_zero, List.set_cons_succ])
      refine take_at 8 (v := undef) rfl (by kernel_rfl) (by kernel_rfl) (by kernel_rfl) (fun _ _ _ h => h) (Or.inr ⟨by rfl, rfl⟩) (by assumption) ?_
      (try simp only [Act.put, List.setIfInBounds_toArray, List.set_cons_zero, List.set_cons_succ])
      refine take_at 9 (v := ?vv166) rfl (by kernel_rfl) (by kernel_rfl) (by kernel_rfl) (fun _ _ _ h => h) (Or.inl ⟨by rfl, ?hy166⟩) (by assumption) ?rest166
      case hy166 => intro w hSw; (try dsimp only at hSw); go_simp; (try with_reducible rfl)
      (try simp only [Act.put, List.setIfInBounds_toArray, List.set_cons_zero, List.set_cons_succ])
      refine ready_at 10 rfl (by kernel_rfl) (fun K hK => ?_)
      rw [if_pos (by rfl)]
      rw [HMC.out]
      refine wp_store_row 29 _ _ rfl w.heap.size _ rfl rfl 29 _ HRD.out.out (Rq.sizeOf X3 HXD.out) (Rq.sizes rq0 X3 rfl HXD.out) (Rq.one X3) ?_
      generalize hwZ : World.setRow _ _ _ = wZ
      have HZ : Hid (Rd w wZ w.heap.size (w.heap.size + 1) X3 X3) := Lib.hid (by rw [← hwZ]; exact HRD.out.ans X3 HXD.out)
      have HPZ : Hid (Pm wZ b qf nf cf true) := Lib.hid ((keep_row hwZ b HN0.out.1.symm).trans HP.out)
      have KB := Lib.hid (And.intro (HRG.out wZ HZ.out.own) (And.intro HPZ.out.at.1 HPZ.out.at.2.1))
      clear hwZ
      refine hK.out _ _ ?hS167 (fun hHeld => ?rest167)
      case hS167 => exact KB.out
      clear hK K
      (try simp only [Act.put, List.setIfInBounds_toArray, List.set_cons_zero, List.set_cons_succ])
      refine take_at 11 (v := ?vv168) rfl (by kernel_rfl) (by kernel_rfl) (by kernel_rfl) (fun _ _ _ h => h) (Or.inl ⟨by rfl, ?hy168⟩) (by assumption) ?rest168
      case hy168 => intro w hSw; (try dsimp only at hSw); go_simp; (try with_reducible rfl)
      (try simp only [Act.put, List.setIfInBounds_toArray, List.set_cons_zero, List.set_cons_succ])
      refine wpAnyH_done (by kernel_rfl) ?_ _
      go_wp2
      refine bodyPost_ret (HZ.out.out.res2 HZ.out.dy rfl _ rfl) rfl ?_
      exact RdW.of X3 _ (HFT.out _ HZ.out.le) HRR.out HZ.out.le HDA.out
  · skip
    go_upto_region 21 with (first
      | (go_at_call 73; (fail_if_success (have hh := HP1)); refine (pnumber_any _ _ _ _ _ _ _ _ 4 _ HP0.out (by omega)).mono ?_; rintro e w1 ⟨rfl, ⟨q1, n1, c1, hp1⟩, hb1⟩; have HP1 := Lib.hid hp1; have HR1 := Lib.hid (HR0.out.but hb1 HN0.out.1 HN0.out.2.1 HN0.out.2.2); clear hp1 hb1; have cl1 := (HR1.out.own.cells HR1.out.dx).2.2.2.2.1; have fr1 := HR1.out.own.frozen 36; obtain ⟨w2, hw2⟩ : ∃ W, w1.setCell ⟨w.heap.size + 1, 36, none⟩ (.int .i64 (numN (zs) 4)) = W := ⟨_, rfl⟩; obtain ⟨X2, hX2⟩ : ∃ X, { rqK 8 with N := numN (zs) 4 } = X := ⟨_, rfl⟩; have HX2 := Lib.hid hX2; have HR2 : Hid (Rd w w2 w.heap.size (w.heap.size + 1) rq0 X2) := Lib.hid (by rw [← hw2, ← hX2]; exact HR1.out.setN _); have HP2 := Lib.hid (HP1.out.cell hw2 (fun hh => HN0.out.2.1 hh.symm) (Nat.le_succ _)); clear hX2)
      | (go_at_call 73; (fail_if_success (have hh := HP3)); refine (pnumber_any _ _ _ _ _ _ _ _ 4 _ HP2.out (by omega)).mono ?_; rintro e w3 ⟨rfl, ⟨q3, n3, c3, hp3⟩, hb3⟩; have HP3 := Lib.hid hp3; have HR3 := Lib.hid (HR2.out.but hb3 HN0.out.1 HN0.out.2.1 HN0.out.2.2); clear hp3 hb3; have cl3 := (HR3.out.own.cells HR3.out.dx).2.2.2.2.2; have fr3 := HR3.out.own.frozen 37; obtain ⟨w4, hw4⟩ : ∃ W, w3.setCell ⟨w.heap.size + 1, 37, none⟩ (.int .i64 (numN (leftN zs 4) 4)) = W := ⟨_, rfl⟩; obtain ⟨X4, hX4⟩ : ∃ X, { X2 with Z := numN (leftN zs 4) 4 } = X := ⟨_, rfl⟩; have HX4 := Lib.hid hX4; have HR4 : Hid (Rd w w4 w.heap.size (w.heap.size + 1) rq0 X4) := Lib.hid (by rw [← hw4, ← hX4]; exact HR3.out.setZ _); have HP4 := Lib.hid (HP3.out.cell hw4 (fun hh => HN0.out.2.1 hh.symm) (Nat.le_succ _)); clear hX4)
      | fail)
    have HFT : Hid (∀ V, Below w.heap.size w V → X4.Fit V) := Lib.hid fun V hV => by rw [← HX4.out, ← HX2.out]; exact ⟨Bs.empty _ _, fun _ => rfl, Nat.le_refl _, Nat.zero_le _, dok_zero, (Nat.zero_le 140737488355328 : (0 : Nat) ≤ 140737488355328), u64_zero, by show _ ≤ (8 : Int) ∧ (8 : Int) ≤ _; omega, numN_bd _ _, numN_bd _ _⟩
    have HXR : Hid (X4.rc = ⟨8, 0, dg0, [], [], numN zs 4, numN (leftN zs 4) 4⟩) := Lib.hid (by rw [← HX4.out, ← HX2.out]; rfl)
    have HDA : Hid (∀ V, Bs V p n zs → Bs V X4.p X4.n X4.da) := Lib.hid fun V hV => by rw [← HX4.out, ← HX2.out]; exact Bs.empty _ _
    have HRR : Hid (RdR 8 zs X4.rc (!((false || decide (zs.length < 4)) || decide ((leftN zs 4).length < 4)) && decide (((leftN (leftN zs 4) 4).length : Int) = 0))) := Lib.hid (by rw [HXR.out]; exact rd68 (k := 8) (by omega) zs HBY.out)
    have HLN := Lib.hid HP4.out.len
    rw [HLN.out] at HRR
    have HP := Lib.hid HP4.out.row
    have HR := HR4
    obtain ⟨xb, hxb⟩ : ∃ xb, ((false || decide (zs.length < 4)) || decide ((leftN zs 4).length < 4)) = xb := ⟨_, rfl⟩
    rw [hxb] at HRR HP
    obtain ⟨qf, hqf⟩ : ∃ y, q3 = y := ⟨_, rfl⟩
    obtain ⟨nf, hnf⟩ : ∃ y, n3 = y := ⟨_, rfl⟩
    obtain ⟨cf, hcf⟩ : ∃ y, c3 = y := ⟨_, rfl⟩
    rw [hnf] at HRR
    rw [hqf, hnf, hcf] at HP
    obtain ⟨W, hW⟩ : ∃ y, w4 = y := ⟨_, rfl⟩
    rw [hW] at HP HR ⊢
    clear hxb hqf hnf hcf
    have HXD := Lib.hid HR.out.dx
    have HLZ : Hid ((Try.prog.info? 29).map (·.size) = some (mixL X4.a X4.dg X4.z).length) := Lib.hid (by rw [mixL_length, HXD.out]; exact size38)
    have HMC := Lib.hid (show (mixL X4.a X4.dg X4.z).toArray = mixC X4.a X4.dg X4.z from rfl)
    have HRG : Hid (∀ W, Rm W (w.heap.size + 1) X4 → W.rangeAt (w.heap.size + 1) 0 (mixL X4.a X4.dg X4.z)) := Lib.hid fun W hW => Mx.range hW
    obtain ⟨L, hL⟩ : ∃ L, mixL X4.a X4.dg X4.z = L := ⟨_, rfl⟩
    rw [hL] at HLZ HMC HRG
    clear hL
    have HRD : Hid (Rd w W.drew w.heap.size (w.heap.size + 1) rq0 X4) := Lib.hid (HR.out.later (Below.refl _ _).drew)
    cases xb
    · have KA := Lib.hid (And.intro (HRG.out W HR.out.own) (And.intro HP.out.at.1 HP.out.at.2.1))
      refine wp_region_held_drew (S := (fun W => W.rangeAt (w.heap.size + 1) 0 L ∧ W.cell? ⟨b, 0, none⟩ = some (.slice qf nf cf) ∧ W.cell? ⟨b, 1, none⟩ = some (.bool false))) (by kernel_rfl) KA.out (fun hHeld => ?_)
      refine take_at 0 rfl (by kernel_rfl) (by kernel_rfl) (by kernel_rfl) (fun _ _ _ h => h) (yieldsIf_load_mid (by rfl) _ _ rfl _ _ rfl _ _ (fun _ h => h.1) Try.underlying29 rfl HLZ.out) (by assumption) ?_
      (try simp only [Act.put, List.setIfInBounds_toArray, List.set_cons_zero, List.set_cons_succ])
      refine take_at 1 (v := ?vv170) rfl (by kernel_rfl) (by kernel_rfl) (by kernel_rfl) (fun _ _ _ h => h) (Or.inl ⟨by rfl, ?hy170⟩) (by assumption) ?rest170
      case hy170 => intro w hSw; (try dsimp only at hSw); go_simp; (try with_reducible rfl)
      (try simp only [Act.put, List.setIfInBounds_toArray, List.set_cons_zero, List.set_cons_succ])
      refine take_at 2 (v := ?vv171) rfl (by kernel_rfl) (by kernel_rfl) (by kernel_rfl) (fun _ _ _ h => h) (Or.inl ⟨by rfl, ?hy171⟩) (by assumption) ?rest171
      case hy171 => intro w hSw; (try dsimp only at hSw); go_simp; (try with_reducible rfl)
      (try simp only [Act.put, List.setIfInBounds_toArray, List.set_cons_zero, List.set_cons_succ])
      refine take_at 3 (v := ?vv172) rfl (by kernel_rfl) (by kernel_rfl) (by kernel_rfl) (fun _ _ _ h => h) (Or.inl ⟨by rfl, ?hy172⟩) (by assumption) ?rest172
      case hy172 => intro w hSw; (try dsimp only at hSw); go_simp; (try with_reducible rfl)
      (try simp only [Act.put, List.setIfInBounds_toArray, List.set_cons_zero, List.set_cons_succ])
      refine take_at 4 (v := ?vv173) rfl (by kernel_rfl) (by kernel_rfl) (by kernel_rfl) (fun _ _ _ h => h) (Or.inl ⟨by rfl, ?hy173⟩) (by assumption) ?rest173
      case hy173 => intro w hSw; (try dsimp only at hSw); go_simp; (try with_reducible rfl)
      (try simp only [Act.put, List.setIfInBounds_toArray, List.set_cons_zero, List.set_cons_succ])
      refine take_at 5 (v := ?vv174) rfl (by kernel_rfl) (by kernel_rfl) (by kernel_rfl) (fun _ _ _ h => h) (Or.inl ⟨by rfl, ?hy174⟩) (by assumption) ?rest174
      case hy174 => intro w hSw; (try dsimp only at hSw); go_simp; (try with_reducible rfl)
      (try simp only [Act.put, List.setIfInBounds_toArray, List.set_cons_zero, List.set_cons_succ])
      refine take_at 6 (v := ?vv175) rfl (by kernel_rfl) (by kernel_rfl) (by kernel_rfl) (fun _ _ _ h => h) (Or.inl ⟨by rfl, ?hy175⟩) (by assumption) ?rest175
      case hy175 => intro w hSw; (try dsimp only at hSw); go_simp; (try with_reducible rfl)
      (try simp only [Act.put, List.setIfInBounds_toArray, List.set_cons_zero, List.set_cons_succ])
      refine take_at 7 (v := ?vv176) rfl (by kernel_rfl) (by kernel_rfl) (by kernel_rfl) (fun _ _ _ h => h) (Or.inl ⟨by rfl, ?hy176⟩) (by assumption) ?rest176
      case hy176 => intro w hSw; (try dsimp only at hSw); go_simp; (try with_reducible rfl)
      (try simp only [Act.put, List.setIfInBounds_toArray, List.set_cons_zero, List.set_cons_succ])
      refine take_at 8 (v := ?vv177) rfl (by kernel_rfl) (by kernel_rfl) (by kernel_rfl) (fun _ _ _ h => h) (Or.inl ⟨by rfl, ?hy177⟩) (by assumption) ?rest177
      case hy177 => intro w hSw; (try dsimp only at hSw); go_simp; (try with_reducible rfl)
      (try simp only [Act.put, List.setIfInBounds_toArray, List.set_cons_zero, List.set_cons_succ])
      refine take_at 9 (v := ?vv178) rfl (by kernel_rfl) (by kernel_rfl) (by kernel_rfl) (fun _ _ _ h => h) (Or.inl ⟨by rfl, ?hy178⟩) (by assumption) ?rest178
      case hy178 => intro w hSw; (try dsimp only at hSw); go_simp; (try with_reducible rfl)
      (try simp only [Act.put, List.setIfInBounds_toArray, List.set_cons_zero, List.set_cons_succ])
      refine ready_at 10 rfl (by kernel_rfl) (fun K hK => ?_)
      rw [if_pos (by rfl)]
      rw [HMC.out]
      refine wp_store_row 29 _ _ rfl w.heap.size _ rfl rfl 29 _ HRD.out.out (Rq.sizeOf X4 HXD.out) (Rq.sizes rq0 X4 rfl HXD.out) (Rq.one X4) ?_
      generalize hwZ : World.setRow _ _ _ = wZ
      have HZ : Hid (Rd w wZ w.heap.size (w.heap.size + 1) X4 X4) := Lib.hid (by rw [← hwZ]; exact HRD.out.ans X4 HXD.out)
      have HPZ : Hid (Pm wZ b qf nf cf false) := Lib.hid ((keep_row hwZ b HN0.out.1.symm).trans HP.out)
      have KB := Lib.hid (And.intro (HRG.out wZ HZ.out.own) (And.intro HPZ.out.at.1 HPZ.out.at.2.1))
      clear hwZ
      refine hK.out _ _ ?hS179 (fun hHeld => ?rest179)
      case hS179 => exact KB.out
      clear hK K
      (try simp only [Act.put, List.setIfInBounds_toArray, List.set_cons_zero, List.set_cons_succ])
      refine take_at 11 (v := ?vv180) rfl (by kernel_rfl) (by kernel_rfl) (by kernel_rfl) (fun _ _ _ h => h) (Or.inl ⟨by rfl, ?hy180⟩) (by assumption) ?rest180
      case hy180 => intro w hSw; (try dsimp only at hSw); go_simp; (try with_reducible rfl)
      (try simp only [Act.put, List.setIfInBounds_toArray, List.set_cons_zero, List.set_cons_succ])
      refine wpAnyH_done (by kernel_rfl) ?_ _
      go_wp2
      refine bodyPost_ret (HZ.out.out.res2 HZ.out.dy rfl _ rfl) rfl ?_
      exact RdW.of X4 _ (HFT.out _ HZ.out.le) HRR.out HZ.out.le HDA.out
    · have KA := Lib.hid (And.intro (HRG.out W HR.out.own) (And.intro HP.out.at.1 HP.out.at.2.1))
      refine wp_region_held_drew (S := (fun W => W.rangeAt (w.heap.size + 1) 0 L ∧ W.cell? ⟨b, 0, none⟩ = some (.slice qf nf cf) ∧ W.cell? ⟨b, 1, none⟩ = some (.bool true))) (by kernel_rfl) KA.out (fun hHeld => ?_)
      refine take_at 0 rfl (by kernel_rfl) (by kernel_rfl) (by kernel_rfl) (fun _ _ _ h => h) (yieldsIf_load_mid (by rfl) _ _ rfl _ _ rfl _ _ (fun _ h => h.1) Try.underlying29 rfl HLZ.out) (by assumption) ?_
      (try simp only [Act.put, List.setIfInBounds_toArray, List.set_cons_zero, List.set_cons_succ])
      refine take_at 1 (v := ?vv182) rfl (by kernel_rfl) (by kernel_rfl) (by kernel_rfl) (fun _ _ _ h => h) (Or.inl ⟨by rfl, ?hy182⟩) (by assumption) ?rest182
      case hy182 => intro w hSw; (try dsimp only at hSw); go_simp; (try with_reducible rfl)
      (try simp only [Act.put, List.setIfInBounds_toArray, List.set_cons_zero, List.set_cons_succ])
      refine take_at 2 (v := ?vv183) rfl (by kernel_rfl) (by kernel_rfl) (by kernel_rfl) (fun _ _ _ h => h) (Or.inl ⟨by rfl, ?hy183⟩) (by assumption) ?rest183
      case hy183 => intro w hSw; (try dsimp only at hSw); go_simp; (try with_reducible rfl)
      (try simp only [Act.put, List.setIfInBounds_toArray, List.set_cons_zero, List.set_cons_succ])
      refine take_at 3 (v := ?vv184) rfl (by kernel_rfl) (by kernel_rfl) (by kernel_rfl) (fun _ _ _ h => h) (Or.inl ⟨by rfl, ?hy184⟩) (by assumption) ?rest184
      case hy184 => intro w hSw; (try dsimp only at hSw); go_simp; (try with_reducible rfl)
      (try simp only [Act.put, List.setIfInBounds_toArray, List.set_cons_zero, List.set_cons_succ])
      refine take_at 4 (v := ?vv185) rfl (by kernel_rfl) (by kernel_rfl) (by kernel_rfl) (fun _ _ _ h => h) (Or.inl ⟨by rfl, ?hy185⟩) (by assumption) ?rest185
      case hy185 => intro w hSw; (try dsimp only at hSw); go_simp; (try with_reducible rfl)
      (try simp only [Act.put, List.setIfInBounds_toArray, List.set_cons_zero, List.set_cons_succ])
      refine take_at 5 (v := undef) rfl (by kernel_rfl) (by kernel_rfl) (by kernel_rfl) (fun _ _ _ h => h) (Or.inr ⟨by rfl, rfl⟩) (by assumption) ?_
      (try simp only [Act.put, List.setIfInBounds_toArray, List.set_cons_zero, List.set_cons_succ])
      refine take_at 6 (v := undef) rfl (by kernel_rfl) (by kernel_rfl) (by kernel_rfl) (fun _ _ _ h => h) (Or.inr ⟨by rfl, rfl⟩) (by assumption) ?_
      (try simp only [Act.put, List.setIfInBounds_toArray, List.set_cons_zero, List.set_cons_succ])
      refine take_at 7 (v := undef) rfl (by kernel_rfl) (by kernel_rfl) (by kernel_rfl) (fun _ _ _ h => h) (Or.inr ⟨by rfl, rfl⟩) (by assumption) ?_
      (try simp only [Act.put, List.setIfInBounds_toArray, List.set_cons_zero, List.set_cons_succ])
      refine take_at 8 (v := undef) rfl (by kernel_rfl) (by kernel_rfl) (by kernel_rfl) (fun _ _ _ h => h) (Or.inr ⟨by rfl, rfl⟩) (by assumption) ?_
      (try simp only [Act.put, List.setIfInBounds_toArray, List.set_cons_zero, List.set_cons_succ])
      refine take_at 9 (v := ?vv190) rfl (by kernel_rfl) (by kernel_rfl) (by kernel_rfl) (fun _ _ _ h => h) (Or.inl ⟨by rfl, ?hy190⟩) (by assumption) ?rest190
      case hy190 => intro w hSw; (try dsimp only at hSw); go_simp; (try with_reducible rfl)
      (try simp only [Act.put, List.setIfInBounds_toArray, List.set_cons_zero, List.set_cons_succ])
      refine ready_at 10 rfl (by kernel_rfl) (fun K hK => ?_)
      rw [if_pos (by rfl)]
      rw [HMC.out]
      refine wp_store_row 29 _ _ rfl w.heap.size _ rfl rfl 29 _ HRD.out.out (Rq.sizeOf X4 HXD.out) (Rq.sizes rq0 X4 rfl HXD.out) (Rq.one X4) ?_
      generalize hwZ : World.setRow _ _ _ = wZ
      have HZ : Hid (Rd w wZ w.heap.size (w.heap.size + 1) X4 X4) := Lib.hid (by rw [← hwZ]; exact HRD.out.ans X4 HXD.out)
      have HPZ : Hid (Pm wZ b qf nf cf true) := Lib.hid ((keep_row hwZ b HN0.out.1.symm).trans HP.out)
      have KB := Lib.hid (And.intro (HRG.out wZ HZ.out.own) (And.intro HPZ.out.at.1 HPZ.out.at.2.1))
      clear hwZ
      refine hK.out _ _ ?hS191 (fun hHeld => ?rest191)
      case hS191 => exact KB.out
      clear hK K
      (try simp only [Act.put, List.setIfInBounds_toArray, List.set_cons_zero, List.set_cons_succ])
      refine take_at 11 (v := ?vv192) rfl (by kernel_rfl) (by kernel_rfl) (by kernel_rfl) (fun _ _ _ h => h) (Or.inl ⟨by rfl, ?hy192⟩) (by assumption) ?rest192
      case hy192 => intro w hSw; (try dsimp only at hSw); go_simp; (try with_reducible rfl)
      (try simp only [Act.put, List.setIfInBounds_toArray, List.set_cons_zero, List.set_cons_succ])
      refine wpAnyH_done (by kernel_rfl) ?_ _
      go_wp2
      refine bodyPost_ret (HZ.out.out.res2 HZ.out.dy rfl _ rfl) rfl ?_
      exact RdW.of X4 _ (HFT.out _ HZ.out.le) HRR.out HZ.out.le HDA.out
end Go.Proofs.Ytjdigncieoaglaa
