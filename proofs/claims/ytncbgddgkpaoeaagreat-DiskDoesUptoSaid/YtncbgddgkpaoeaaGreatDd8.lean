/- Layer 9: the program's change: a change of bytes of the call's own; Layer 9: the program's change -/
import Derived.Test.YtncbgddgkpaoeaaGreatDd7
import Derived.StillTailTactics
set_option linter.unusedSimpArgs false
set_option linter.unusedVariables false
namespace Go.Proofs.YtncbgddgkpaoeaaGreat
set_option linter.unusedVariables false
open Go.RowKit Go.Lib

/-- grown by bytes 0, then written over: just what a write leaves -/
theorem put_code (zs d : List Int) (o : Nat) (hd : d ≠ []) :
    (zs ++ List.replicate (o + d.length - zs.length) 0).take o ++ d ++ (zs ++ List.replicate (o + d.length - zs.length) 0).drop (o + d.length) = putP zs o d := by
  rw [putP, if_neg hd]
  have h0 : 0 < d.length := List.length_pos_iff.2 hd
  have e1 : (zs ++ List.replicate (o + d.length - zs.length) (0 : Int)).take o = zs.take o ++ List.replicate (o - zs.length) 0 := by
    rw [List.take_append, List.take_replicate]
    congr 2
    omega
  have e2 : (zs ++ List.replicate (o + d.length - zs.length) (0 : Int)).drop (o + d.length) = zs.drop (o + d.length) := by
    rw [List.drop_append, List.drop_replicate]
    rw [show o + d.length - zs.length - (o + d.length - zs.length) = 0 by omega]
    simp
  rw [e1, e2]

/-- the first bytes of a row of the call's own -/
theorem Ob.first {w : World} {B n cap : Nat} {p : Option Addr} {e : TypeId} {zs : List Int} (h : Ob w B e (.slice p n cap) zs) (m : Nat) (hm : m ≤ n) : Ob w B e (.slice p m cap) (zs.take m) := by
  obtain ⟨hb, hl, h2⟩ := h
  have hby : ∀ j, 0 ≤ (zs.take m).getD j 0 ∧ (zs.take m).getD j 0 < 256 := fun j => by
    rw [List.getD_eq_getElem?_getD, List.getElem?_take]
    split
    · rw [← List.getD_eq_getElem?_getD]; exact hb j
    · simp
  rcases h2 with ⟨hv, h0⟩ | ⟨g, cap', cur, hv, hB, hg, hn, hc, hs, ht⟩
  · simp only [Value.slice.injEq] at hv
    obtain ⟨rfl, rfl, rfl⟩ := hv
    obtain rfl : m = 0 := by omega
    refine ⟨hby, by simp, Or.inl ⟨rfl, by simp⟩⟩
  · simp only [Value.slice.injEq] at hv
    obtain ⟨rfl, hnl, rfl⟩ := hv
    have hml : (zs.take m).length = m := by rw [List.length_take]; omega
    refine ⟨hby, by simp, Or.inr ⟨g, cap, cur, by rw [hml], hB, hg, by omega, hc, hs, ?_⟩⟩
    rw [hml]
    have := congrArg (List.take (m * 1)) ht
    rw [List.take_take, Nat.min_eq_left (by simp; omega)] at this
    rw [this]
    simp [List.map_take]

/-- 'copy(s[o:], x)', s a row of the call's own that is long enough. -/
theorem wpList_copy_at {P : Program} {w : World} {ops : Array Oper} {rest : List Oper} {op : Oper} {a : Act} {Q : Exit → Act → World → Prop} (hgd : op.guard = none) (d s : Operand) (dT sT e : TypeId)
    (ho : op.op = .call { callee := .builtin .copy, args := #[d, s], argTypes := #[dT, sT] }) (hu : P.underlying dT = some (.slice e)) (hsz : (P.info? e).map (·.size) = some 1)
    (B g o m n len cap cap' sCap : Nat) (sp : Option Addr) (zs ys : List Int) (hd : a.eval d = .slice (some ⟨g, o, none⟩) m cap') (hs : a.eval s = .slice sp n sCap)
    (hob : Ob w B e (.slice (some ⟨g, 0, none⟩) len cap) zs) (hbs : Bs w sp n ys) (hn : 0 < n) (hm : n ≤ m) (hon : o + n ≤ len)
    (h : ∀ w', Ob w' B e (.slice (some ⟨g, 0, none⟩) len cap) (zs.take o ++ ys ++ zs.drop (o + n)) → w.grownBy w' (some g) → wpList P ops Q rest (a.put op.dst (goInt n)) w') : wpList P ops Q (op :: rest) a w := by
  obtain ⟨hb0, hl, h2⟩ := hob
  obtain ⟨hz1, hz2, hz3⟩ := hbs
  rcases h2 with ⟨h0, _⟩ | ⟨g', cap2, cur, hv, hB, hg, hnc, hcm, hcs, ht⟩
  · cases h0
  · simp only [Value.slice.injEq, Option.some.injEq, Addr.mk.injEq, and_true] at hv
    obtain ⟨rfl, hyl, rfl⟩ := hv
    rcases hz3 with h0' | ⟨b, off, rfl, hc⟩
    · omega
    · have hcl : (ys.map (Value.int .u8)).length = n := by simpa using hz1
      have hcs' : cur.toList.length = cap := by simpa using hcs
      refine wpList_copy_own hgd d s dT sT ho e hu hsz g o m cap' ⟨b, off, none⟩ n sCap hd hs cur e hg (ys.map (Value.int .u8)) (by rw [hcl]; exact (Nat.min_eq_left hm).symm) ?_ (by rw [hcl]; rw [Array.length_toList] at hcs'; omega) ?_ ?_
      · intro j u hj
        have hjn : j < n := by
          rcases Nat.lt_or_ge j n with h | h
          · exact h
          · rw [List.getElem?_eq_none (by omega)] at hj; cases hj
        rw [WideShapes.add_plain, hc j hjn]
        rw [List.getElem?_map] at hj
        rw [List.getD_eq_getElem?_getD]
        rw [List.getElem?_eq_getElem (by omega)] at hj ⊢
        simpa using hj
      · intro u hu'
        obtain ⟨z, _, rfl⟩ := List.mem_map.1 hu'
        rfl
      · rw [hcl]
        have hbl := setRow_heap w g cur (cur.toList.take o ++ (ys.map (Value.int .u8) ++ cur.toList.drop (o + n))).toArray e (0, 0) hg
        have hnl : (zs.take o ++ ys ++ zs.drop (o + n)).length = len := by
          simp only [List.length_append, List.length_take, List.length_drop, hz1]
          omega
        have hby : ∀ j, 0 ≤ (zs.take o ++ ys ++ zs.drop (o + n)).getD j 0 ∧ (zs.take o ++ ys ++ zs.drop (o + n)).getD j 0 < 256 := by
          refine bytes_append (bytes_append (fun j => ?_) hz2) (fun j => ?_)
          · rw [List.getD_eq_getElem?_getD, List.getElem?_take]
            split
            · rw [← List.getD_eq_getElem?_getD]; exact hb0 j
            · simp
          · rw [List.getD_eq_getElem?_getD, List.getElem?_drop, ← List.getD_eq_getElem?_getD]; exact hb0 _
        have hC : cur.toList = zs.map (Value.int .u8) ++ cur.toList.drop len := by
          have ht' : cur.toList.take len = zs.map (Value.int .u8) := by rw [← ht]; simp [hyl]
          rw [← ht', List.take_append_drop]
        have hZ : (zs.map (Value.int .u8)).length = len := by rw [List.length_map]; omega
        have e1 : cur.toList.take o = (zs.take o).map (Value.int .u8) := by
          rw [hC, List.take_append_of_le_length (by omega), List.map_take]
        have e2 : cur.toList.drop (o + n) = (zs.drop (o + n)).map (Value.int .u8) ++ cur.toList.drop len := by
          conv => lhs; rw [hC]
          rw [List.drop_append_of_le_length (by omega), List.map_drop]
        refine h _ ⟨hby, by simp, Or.inr ⟨g, cap, _, by rw [hnl], hB, hbl, by omega, hcm, ?_, ?_⟩⟩ ?_
        · have hd2 : (cur.toList.drop (o + n)).length = cap - (o + n) := by rw [List.length_drop, hcs']
          have hd1 : (cur.toList.take o).length = o := by rw [List.length_take, hcs']; omega
          rw [List.size_toArray, List.length_append, List.length_append, hd1, hd2, hcl]
          omega
        · rw [hnl]
          show (cur.toList.take o ++ (ys.map (Value.int .u8) ++ cur.toList.drop (o + n))).take (len * 1) = _
          rw [e1, e2, ← List.append_assoc, ← List.append_assoc, List.take_append_of_le_length (by
            rw [Nat.mul_one]
            simp only [List.length_append, List.length_map, List.length_take, List.length_drop, hz1]
            omega), List.take_of_length_le (by
            simp only [List.length_append, List.length_map, List.length_take, List.length_drop, hz1]
            omega)]
          simp only [List.map_append]
        · exact ⟨rfl, rfl, rfl, by simp, fun k _ hk => setRow_other w g k _ (fun e => hk (by rw [e]))⟩
end Go.Proofs.YtncbgddgkpaoeaaGreat

namespace Go.Proofs.YtncbgddgkpaoeaaGreat
set_option linter.unusedVariables false
open Go.RowKit Go.Lib

theorem slice_to_any {P : Program} (W : World) (t e : TypeId) (ht : P.underlying t = some (.slice e)) (hz : ∀ w, (Go.sizeOf e).run P w = .ok 1 w) (B : Nat) (w0 : World) (p : Option Addr) (len cap m : Nat) (zs : List Int) (h : Ob w0 B e (.slice p len cap) zs) (hm : m ≤ len) :
    (Instr.slice t (.slice p len cap) none (some (.int .i64 (m : Int))) none).run P W = .ok (.slice p m cap) W := by
  rcases h.2.2 with ⟨hv, h0⟩ | ⟨g, cap', cur, hv, hB, hg, hn, hc, hs, ht'⟩
  · simp only [Value.slice.injEq] at hv
    obtain ⟨rfl, rfl, rfl⟩ := hv
    obtain rfl : m = 0 := by omega
    have ht' : P.underlying t = some (.slice (P.elem t)) := by simp [Program.elem, ht]
    have he : P.elem t = e := by simp [Program.elem, ht]
    rw [run_slice_h W t _ _ _ ht' .i64 _ (by omega) (by omega), he, hz]
    simp [Result.andThen, sliced]
  · simp only [Value.slice.injEq] at hv
    obtain ⟨rfl, hl, rfl⟩ := hv
    exact run_slice_to W t e ht hz g 0 len cap m (by omega)

theorem Cw.lt {w : World} {B : Nat} {c : Ch} {p : Option Addr} {n cap : Nat} (h : Cw w B c p n cap) : B < w.heap.size := by
  unfold Cw at h
  exact (Array.getElem?_eq_some_iff.1 h).1

set_option maxRecDepth 100000 in
set_option maxHeartbeats 4000000 in
theorem wchange_any (w0 : World) (v : Value) (zs : List Int) (c : Ch) (p : Option Addr) (n cap : Nat) (w : World) (hb : Below w0.heap.size w0 w) (ho : Ob w w0.heap.size 5 v zs) (hc : chIn w0 c p n cap) (hl : zs.length ≤ 2097152) :
    Calls Tryz.prog 106 #[v, chV c p n cap] w fun e w' => ∃ v', e = .returned v' ∧ Ob w' w0.heap.size 5 v' (appP zs c c.dat.length) ∧ Below w0.heap.size w0 w' := by
  have HSW : Hid (w0.heap.size ≤ w.heap.size) := Lib.hid hb.size
  have HB0 : Hid (Below w0.heap.size w0 (w.alloc (.cells #[.bool c.cut, .int .i64 c.off, .slice p n cap] 137))) := Lib.hid (hb.alloc hb.size _)
  have HX0 : Hid (Below w.heap.size w (w.alloc (.cells #[.bool c.cut, .int .i64 c.off, .slice p n cap] 137))) := Lib.hid ((Below.refl _ _).alloc (Nat.le_refl _) _)
  have HC0 : Hid (Cw (w.alloc (.cells #[.bool c.cut, .int .i64 c.off, .slice p n cap] 137)) w.heap.size c p n cap) := Lib.hid (heap_alloc_new _ _)
  have HS0 : Hid (w.heap.size + 1 ≤ (w.alloc (.cells #[.bool c.cut, .int .i64 c.off, .slice p n cap] 137)).heap.size) := Lib.hid (by simp)
  have H := Lib.hid hc
  have HO := Lib.hid ho
  obtain ⟨p3, c3, hv3, hlc3, hcm3, _, _⟩ := ho.open
  subst hv3
  have hcl := HC0.out.cells
  have HDL := Lib.hid hc.1.1
  have hcm := hc.2.2.2.1
  have hnc := hc.2.2.1
  cases hr : rightP c
  · have HF : Hid (appP zs c c.dat.length = zs) := Lib.hid (by unfold appP; rw [if_pos hr])
    have HRT : Hid (∀ W, chIn W c p n cap → Calls Tryz.prog 116 #[.agg #[.bool c.cut, .int .i64 c.off, .slice p n cap]] W fun e w' => e = .returned (.bool false) ∧ W.alloc (.cells #[.bool c.cut, .int .i64 c.off, .slice p n cap] 137) = w') := Lib.hid fun W hW => by
      have h := wright_any c p n cap W hW
      rwa [hr] at h
    clear hc ho hr hlc3 hcm3
    unfold chV
    obtain ⟨h0, h1, h2⟩ := hcl
    go_enter Tryz.func106, Tryz.ntmps106
    go_wp2_with fail
    refine (HRT.out _ (H.out.later HB0.out)).mono ?_
    rintro e w1 ⟨rfl, hw1⟩
    have HB1 : Hid (Below w0.heap.size w0 w1) := Lib.hid (by rw [← hw1]; exact HB0.out.alloc HB0.out.size _)
    have HX1 : Hid (Below w.heap.size w w1) := Lib.hid (by rw [← hw1]; exact HX0.out.alloc HX0.out.size _)
    clear hw1 h0 h1 h2 HC0 HS0 HB0 HX0
    go_wp2
    go_ret
    exact ⟨_, rfl, by rw [HF.out]; exact HO.out.later HX1.out, HB1.out⟩
  · have hro := hr
    unfold rightP at hro
    obtain ⟨o0, o1⟩ := of_decide_eq_true hro
    rw [hc.1.1] at o1
    obtain ⟨o, ho'⟩ : ∃ o : Nat, c.off = (o : Int) := ⟨c.off.toNat, by omega⟩
    have hon : o + n ≤ 1048576 := by omega
    have HRT : Hid (∀ W, chIn W c p n cap → Calls Tryz.prog 116 #[.agg #[.bool c.cut, .int .i64 c.off, .slice p n cap]] W fun e w' => e = .returned (.bool true) ∧ W.alloc (.cells #[.bool c.cut, .int .i64 c.off, .slice p n cap] 137) = w') := Lib.hid fun W hW => by
      have h := wright_any c p n cap W hW
      rwa [hr] at h
    have HOF := Lib.hid ho'
    cases hcut : c.cut
    · by_cases hn0 : n = 0
      · have HF : Hid (appP zs c c.dat.length = zs) := Lib.hid (by
          unfold appP
          rw [if_neg (by rw [hr]; simp), if_neg (by rw [hcut]; simp)]
          rw [hc.1.1, hn0, List.take_zero, putP_nil])
        have HCUT := Lib.hid hcut
        have hn0' : ((n : Int) == 0) = true := by simp [hn0]
        clear hro o0 o1 hr hc ho hcut ho' hn0
        unfold chV
        obtain ⟨h0, h1, h2⟩ := hcl
        go_enter Tryz.func106, Tryz.ntmps106
        go_wp2_with fail
        refine (HRT.out _ (H.out.later HB0.out)).mono ?_
        rintro e w1 ⟨rfl, hw1⟩
        have HB1 : Hid (Below w0.heap.size w0 w1) := Lib.hid (by rw [← hw1]; exact HB0.out.alloc HB0.out.size _)
        have HX1 : Hid (Below w.heap.size w w1) := Lib.hid (by rw [← hw1]; exact HX0.out.alloc HX0.out.size _)
        have HC1 : Hid (Cw w1 w.heap.size c p n cap) := Lib.hid (HC0.out.keep (by rw [← hw1]; exact (Below.refl _ _).alloc HS0.out _))
        clear hw1 h0 h1 h2 HC0 HS0 HB0 HX0
        have hc1 := HC1.out.cells
        rw [HCUT.out, HOF.out] at hc1
        obtain ⟨h0, h1, h2⟩ := hc1
        go_wp2
        go_ret
        exact ⟨_, rfl, by rw [HF.out]; exact HO.out.later HX1.out, HB1.out⟩
      · have HF : Hid (appP zs c c.dat.length = putP zs o c.dat) := Lib.hid (by
          unfold appP
          rw [if_neg (by rw [hr]; simp), if_neg (by rw [hcut]; simp), ho', List.take_length]
          rfl)
        have HNE : Hid (c.dat ≠ []) := Lib.hid (fun h => hn0 (by rw [← hc.1.1, h]; rfl))
        have HPC := Lib.hid (put_code zs c.dat o HNE.out)
        rw [hc.1.1] at HPC
        have HCUT := Lib.hid hcut
        have hn0' : ((n : Int) == 0) = false := by simpa using hn0
        have hn1 : 0 < n := Nat.pos_of_ne_zero hn0
        have HN1 := Lib.hid hn1
        clear hro o0 o1 hr hc ho hcut ho' hn0
        unfold chV
        obtain ⟨h0, h1, h2⟩ := hcl
        by_cases hmore : o + n ≤ zs.length
        · have hgt : decide ((o : Int) + (n : Int) - (zs.length : Int) > 0) = false := by simp; omega
          have hrep : o + n - zs.length = 0 := by omega
          rw [hrep, List.replicate_zero, List.append_nil] at HPC
          clear hrep
          go_enter Tryz.func106, Tryz.ntmps106
          go_wp2_with fail
          refine (HRT.out _ (H.out.later HB0.out)).mono ?_
          rintro e w1 ⟨rfl, hw1⟩
          have HB1 : Hid (Below w0.heap.size w0 w1) := Lib.hid (by rw [← hw1]; exact HB0.out.alloc HB0.out.size _)
          have HX1 : Hid (Below w.heap.size w w1) := Lib.hid (by rw [← hw1]; exact HX0.out.alloc HX0.out.size _)
          have HC1 : Hid (Cw w1 w.heap.size c p n cap) := Lib.hid (HC0.out.keep (by rw [← hw1]; exact (Below.refl _ _).alloc HS0.out _))
          clear hw1 h0 h1 h2 HC0 HS0 HB0 HX0
          have hc1 := HC1.out.cells
          rw [HCUT.out, HOF.out] at hc1
          obtain ⟨h0, h1, h2⟩ := hc1
          obtain ⟨g, rfl⟩ := HO.out.ptr (by omega)
          have HO1 := Lib.hid (HO.out.later HX1.out)
          have hsl := fun W => run_slice_from (P := Tryz.prog) W 32 5 Tryz.underlying32 (fun _ => by kernel_rfl) g 0 zs.length c3 o (by omega)
          have hne : ¬ c3 = o := by omega
          simp only [if_neg hne, Nat.zero_add] at hsl
          have HS1 : Hid (w0.heap.size ≤ w1.heap.size) := Lib.hid HB1.out.size
          go_wp2
          go_still_tail 6, (by kernel_rfl)
          change wpList _ _ _ _ _ w1.drew
          have HO3 : Hid (Ob w1.drew w0.heap.size 5 (.slice (some ⟨g, 0, none⟩) zs.length c3) zs) := Lib.hid (HO1.out.later (Below.refl _ _).drew)
          have HB3 : Hid (Below w0.heap.size w0 w1.drew) := Lib.hid (HB1.out.trans (((Below.refl _ _).drew).mono HS1.out))
          have HD3 : Hid (Bs w1.drew p n c.dat) := Lib.hid (H.out.1.later HB3.out)
          have HGB := Lib.hid HO3.out.block_own.1
          go_wp2_with (refine wpList_copy_at rfl (.tmp 44) (.tmp 46) 32 32 5 rfl Tryz.underlying32 size8 w0.heap.size g o _ n zs.length c3 (c3 - o) cap p zs c.dat rfl rfl HO3.out HD3.out HN1.out (by omega) (by omega) ?_; intro w4 hob4 hg4; rw [HPC.out] at hob4; have HO4 := Lib.hid hob4; have HB4 : Hid (Below w0.heap.size w0 w4) := Lib.hid (HB3.out.grown hg4 HB3.out.size (fun k hk => by cases hk; exact HGB.out)); clear hob4 hg4)
          go_ret
          exact ⟨_, rfl, by rw [HF.out]; exact HO4.out, HB4.out⟩
        · have hgt : decide ((o : Int) + (n : Int) - (zs.length : Int) > 0) = true := by simp; omega
          obtain ⟨k, hk⟩ : ∃ k, o + n - zs.length = k := ⟨_, rfl⟩
          have hkz : ((o : Int) + (n : Int) - (zs.length : Int)) = (k : Int) := by omega
          have HK0 : Hid (0 < k) := Lib.hid (by omega)
          have HKL : Hid (zs.length + k ≤ 140737488355328) := Lib.hid (by omega)
          have HLK : Hid ((zs ++ List.replicate k (0 : Int)).length = o + n) := Lib.hid (by rw [List.length_append, List.length_replicate]; omega)
          rw [hk] at HPC
          clear hk
          go_enter Tryz.func106, Tryz.ntmps106
          go_wp2_with fail
          refine (HRT.out _ (H.out.later HB0.out)).mono ?_
          rintro e w1 ⟨rfl, hw1⟩
          have HB1 : Hid (Below w0.heap.size w0 w1) := Lib.hid (by rw [← hw1]; exact HB0.out.alloc HB0.out.size _)
          have HX1 : Hid (Below w.heap.size w w1) := Lib.hid (by rw [← hw1]; exact HX0.out.alloc HX0.out.size _)
          have HC1 : Hid (Cw w1 w.heap.size c p n cap) := Lib.hid (HC0.out.keep (by rw [← hw1]; exact (Below.refl _ _).alloc HS0.out _))
          have HS1 : Hid (w0.heap.size ≤ w1.heap.size) := Lib.hid HB1.out.size
          clear hw1 h0 h1 h2 HC0 HS0 HB0 HX0
          have hc1 := HC1.out.cells
          rw [HCUT.out, HOF.out] at hc1
          obtain ⟨h0, h1, h2⟩ := hc1
          have HO1 := Lib.hid (HO.out.later HX1.out)
          go_upto_region 10 with (refine wpList_append_zeros rfl (.tmp 38) (.tmp 39) 32 3 5 rfl Tryz.underlying32 Tryz.underlying3 info8 w0.heap.size _ zs rfl HO1.out k rfl HK0.out HKL.out HS1.out ?_; intro v2 w2 hob2 hg2; have HO2 := Lib.hid hob2; have HX2 := Lib.hid (below_new HB1.out HO1.out hg2 HS1.out); have HC2 : Hid (Cw w2 w.heap.size c p n cap) := Lib.hid (by have hh := HC1.out; unfold Cw at hh ⊢; rw [hg2.block _ HC1.out.lt (fun he => by obtain ⟨_, hlt⟩ := HO.out.2.lt _ he.symm; omega)]; exact hh); clear hob2 hg2)
          have HS2 : Hid (w0.heap.size ≤ w2.heap.size) := Lib.hid HX2.out.size
          clear h0 h1 h2 HO1 HB1 HX1 HC1
          have hc2 := HC2.out.cells
          rw [HCUT.out, HOF.out] at hc2
          obtain ⟨h0, h1, h2⟩ := hc2
          obtain ⟨p4, c4, hv4, hlc4, hcm4, _, _⟩ := HO2.out.open
          rw [HLK.out] at hv4 hlc4
          subst hv4
          obtain ⟨g, rfl⟩ := HO2.out.ptr (by have := HN1.out; omega)
          have hsl := fun W => run_slice_from (P := Tryz.prog) W 32 5 Tryz.underlying32 (fun _ => by kernel_rfl) g 0 (o + n) c4 o (by omega)
          have hne : ¬ c4 = o := by have := HN1.out; omega
          simp only [if_neg hne, Nat.zero_add] at hsl
          go_wp2
          go_still_tail 6, (by kernel_rfl)
          change wpList _ _ _ _ _ w2.drew
          have HO3 : Hid (Ob w2.drew w0.heap.size 5 (.slice (some ⟨g, 0, none⟩) (o + n) c4) (zs ++ List.replicate k 0)) := Lib.hid (HO2.out.later (Below.refl _ _).drew)
          have HB3 : Hid (Below w0.heap.size w0 w2.drew) := Lib.hid (HX2.out.trans (((Below.refl _ _).drew).mono HS2.out))
          have HD3 : Hid (Bs w2.drew p n c.dat) := Lib.hid (H.out.1.later HB3.out)
          have HGB := Lib.hid HO3.out.block_own.1
          go_wp2_with (refine wpList_copy_at rfl (.tmp 44) (.tmp 46) 32 32 5 rfl Tryz.underlying32 size8 w0.heap.size g o _ n (o + n) c4 (c4 - o) cap p (zs ++ List.replicate k 0) c.dat rfl rfl HO3.out HD3.out HN1.out (by omega) (by omega) ?_; intro w4 hob4 hg4; rw [HPC.out] at hob4; have HO4 := Lib.hid hob4; have HB4 : Hid (Below w0.heap.size w0 w4) := Lib.hid (HB3.out.grown hg4 HB3.out.size (fun k hk => by cases hk; exact HGB.out)); clear hob4 hg4)
          go_ret
          exact ⟨_, rfl, by rw [HF.out]; exact HO4.out, HB4.out⟩
    · have HF : Hid (appP zs c c.dat.length = zs.take o) := Lib.hid (by
        unfold appP
        rw [if_neg (by rw [hr]; simp), if_pos hcut, ho']
        rfl)
      have HCUT := Lib.hid hcut
      have HM : Hid (zs.take (min o zs.length) = zs.take o) := Lib.hid (by
        rcases Nat.le_total o zs.length with h | h
        · rw [Nat.min_eq_left h]
        · rw [Nat.min_eq_right h, List.take_of_length_le (Nat.le_refl _), List.take_of_length_le h])
      have hmin : min (o : Int) (zs.length : Int) = ((min o zs.length : Nat) : Int) := by omega
      have hsl : ∀ W, (Instr.slice 32 (.slice p3 zs.length c3) none (some (.int .i64 (min (o : Int) (zs.length : Int)))) none).run Tryz.prog W = .ok (.slice p3 (min o zs.length) c3) W := fun W => by
        rw [hmin]
        exact slice_to_any W 32 5 Tryz.underlying32 (fun _ => by kernel_rfl) _ w p3 zs.length c3 _ zs ho (Nat.min_le_right _ _)
      clear hmin hro o0 o1 hr hc ho hcut ho'
      unfold chV
      obtain ⟨h0, h1, h2⟩ := hcl
      go_enter Tryz.func106, Tryz.ntmps106
      go_wp2_with fail
      refine (HRT.out _ (H.out.later HB0.out)).mono ?_
      rintro e w1 ⟨rfl, hw1⟩
      have HB1 : Hid (Below w0.heap.size w0 w1) := Lib.hid (by rw [← hw1]; exact HB0.out.alloc HB0.out.size _)
      have HX1 : Hid (Below w.heap.size w w1) := Lib.hid (by rw [← hw1]; exact HX0.out.alloc HX0.out.size _)
      have HC1 : Hid (Cw w1 w.heap.size c p n cap) := Lib.hid (HC0.out.keep (by rw [← hw1]; exact (Below.refl _ _).alloc HS0.out _))
      clear hw1 h0 h1 h2 HC0 HS0 HB0 HX0
      have hc1 := HC1.out.cells
      rw [HCUT.out, HOF.out] at hc1
      obtain ⟨h0, h1, h2⟩ := hc1
      go_wp2
      go_ret
      exact ⟨_, rfl, by rw [HF.out, ← HM.out]; exact (HO.out.later HX1.out).first _ (Nat.min_le_right _ _), HB1.out⟩
end Go.Proofs.YtncbgddgkpaoeaaGreat
