/- A table of index's own entries: New, Get. (gen_ky.py); Layer 20, the program: an index as it lies in memory; Layer 20, the program: count. (gen_ixec.py); A table of index's own entries: Put. (gen_ky.py); A table of index's own entries: double. (gen_ky.py); A table of index's own entries: release, Cut. (gen_ky.py); A table of index's own entries: Row. (gen_ky.py) -/
import Derived.Test.YtpfbfhigelbfcaaGreatSd16
import Derived.Test.YtpfbfhigelbfcaaGreatSd34
set_option linter.unusedSimpArgs false
set_option linter.unusedVariables false
namespace Go.Proofs.YtpfbfhigelbfcaaGreat
open Go.RowKit Go.Lib
namespace Tg
theorem infoSl : (Tryz.prog.info? 164).map (fun i => (i.zero, i.size, i.bytes)) = some (some (.agg ((encSl vtE).f none).toArray), 71, 136) := by kernel_rfl
set_option maxRecDepth 100000 in
set_option maxHeartbeats 1000000 in
theorem new_any (w : World) : Calls Tryz.prog 72 #[] w fun e w' => ∃ v S, e = .returned v ∧ Tb vtE w' S v [] 8 ∧ Below w.heap.size w w' ∧ ∀ b, S b → w.heap.size ≤ b := by
 obtain ⟨i0, hi, hz0, hz1, hz2⟩ := info_parts infoSl
 go_enter Tryz.func72, Tryz.ntmps72
 go_wp2_with (refine wpList_make_full _ rfl _ _ 155 rfl w.heap.size (encSl vtE).t i0 (.agg ((encSl vtE).f none).toArray) 71 Tryz.underlying155 hi hz0 hz1 _ _ _ _ 8 rfl rfl rfl rfl (by rw [hz2]; decide) (by unfold maxLen; decide) (Nat.le_refl _) ?_; intro w1 hrow1 hg1; have HR1 : Hid (Ir (encSl vtE) w1 w.heap.size (List.replicate 8 none)) := Lib.hid (Ir.made (base := w.heap.size) (n := 8) (by decide) hrow1); have HB1 : Hid (Below w.heap.size w w1) := Lib.hid (below_none hg1); clear hrow1 hg1)
 go_ret
 have hb : Below w.heap.size w (w1.alloc (.cells #[.slice (some ⟨w.heap.size, 0, none⟩) 8 8, .int .i64 0] 157)) := HB1.out.alloc HB1.out.size _
 have hlt := HR1.out.lt
 refine ⟨_, _, rfl, ⟨w1.heap.size, w.heap.size, List.replicate 8 none, 0, rfl, rfl, ⟨heap_alloc_new _ _, HR1.out.later ((Below.refl _ _).alloc (Nat.le_refl _) _), by omega⟩, tbp_new⟩, hb, ?_⟩
 rintro b (rfl | rfl)
 ·exact HB1.out.size
 ·exact Nat.le_refl _
/-- what Get answers -/
def GetT (w : World) (r : Option Ex) (e : Ending) (w' : World) : Prop := e = .returned (.tuple #[enV (r.getD exZ).e (r.getD exZ).s, .bool r.isSome]) ∧ Below w.heap.size w w'
set_option maxRecDepth 100000 in
set_option maxHeartbeats 2000000 in
theorem get_any {w : World} {S : Nat → Prop} {v : Value} {L : List (Pg Ex)} {s : Int} (d : List Int) (h : Tb vtE w S v L s) (hd : dok d) : Calls Tryz.prog 77 #[v, .agg (bcs d)] w fun e w' => GetT w (getN L d) e w' := by
 obtain ⟨bT, bS, A, c, rfl, rfl, hm, hp⟩ := h
 obtain ⟨wA, w0, g1, hwA, hw0, hg1, hX⟩ := box2 w (bcs d) (enC zeroE (.slice none 0 0)) 35 124
 have hb0 : Below w.heap.size w w0 := hX.le
 have HLT := Lib.hid hX.lt
 have HZ := Lib.hid fun W (hW : Below w0.heap.size w0 W) => (obj_later hX.z hW : Km W g1 zeroE (.slice none 0 0))
 have HLD : Hid (∀ W, Below w0.heap.size w0 W → (Instr.loadAt 35 (.pointer (some ⟨w.heap.size, 0, none⟩))).run Tryz.prog W = .ok (.agg (bcs d)) W) := Lib.hid fun W hW => Yw.load (show Yw W w.heap.size 35 d from obj_later hX.a hW) hd.1
 have HM0 := Lib.hid (hm.later hb0)
 have HB0 := Lib.hid hb0
 have HBE := Lib.hid (Below.refl w0.heap.size w0)
 have HP := Lib.hid hp
 have HD := Lib.hid hd
 have HFI := Lib.hid fun W (hW : Below w0.heap.size w0 W) => find_any d (HM0.out.later hW) hp.dka hp.free hp.n4 hd
 have hgp := getN_perm hp.pm hp.uq d
 rw [hgp]
 have hn8 := hp.n8
 rw [enZero] at hw0
 clear hm hp hd hb0 hX hgp
 obtain ⟨n, hn⟩ : ∃ n, A.length = n := ⟨_, rfl⟩
 have HN := Lib.hid hn
 rw [hn] at hn8
 generalize hM : bcs d = M at *
 clear hM hn
 go_enter Tryz.func77, Tryz.ntmps77
 go_upto_region 5 with (first
  | (refine wpList_ld rfl 35 _ rfl _ rfl _ (HLD.out _ HBE.out) ?_)
  | (go_at_call 109; refine (HFI.out _ HBE.out).mono ?_; rintro e w1 ⟨t, fb, rfl, htn, hpre, hor, hb1⟩))
 have HM1 := Lib.hid (HM0.out.later hb1)
 have HZ1 := Lib.hid (HZ.out _ hb1)
 have HBA : Hid (Below w.heap.size w w1) := Lib.hid (below_step HB0.out hb1)
 have HPRE := Lib.hid hpre
 have hpl : posN A d t < n := by rw [← HN.out]; exact posN_lt (by omega) d t
 obtain ⟨p, hpp⟩ : ∃ p, posN A d t = p := ⟨_, rfl⟩
 have HPP := Lib.hid hpp
 rw [hpp] at hor hpl
 rw [hpp]
 have hpi : (p : Int) < (n : Int) := by omega
 have hp0 : (0 : Int) ≤ (p : Int) := by omega
 obtain ⟨q0, q1⟩ := HM1.out.cells
 rw [HN.out] at q0
 clear hpre hpp htn hb1 hwA hw0 hg1
 rcases hor with ⟨rfl, hor⟩ | ⟨rfl, y, hor, hyd⟩
 ·have HL : Hid ((Instr.loadAt 124 (.pointer (some ⟨bS, p * 71 + 33, none⟩))).run Tryz.prog w1 = .ok (.agg (enC zeroE (.slice none 0 0))) w1) := Lib.hid (kn_load (x := exZ) (te_none HM1.out.ir (by rw [HN.out]; exact hpl) hor).2)
  have HE : Hid (getN (cont A) d = none) := Lib.hid (HPRE.out.none HP.out.iv (by rw [HPP.out]; exact hor))
  clear hor
  go_wp2_with (first
   | (refine wpList_ld rfl 124 _ rfl _ rfl _ HL.out ?_)
   | (refine wpList_store_row rfl 124 _ _ rfl g1 (enC zeroE (.slice none 0 0)) rfl rfl 124 _ HZ1.out (knC_sizeOf zeroE _ rfl) (rfl) (enC_one _ _ _ _) ?_; generalize hw6 : World.setRow _ _ _ = w6))
  have HM6 : Km w6 g1 zeroE (.slice none 0 0) := by rw [← hw6]; exact Mx.row HZ1.out
  refine bodyPost_ret (HM6.res2 rfl rfl _ rfl) rfl ?_
  rw [HE.out]
  exact ⟨rfl, by rw [← hw6]; exact below_setRow8 HBA.out _ _ (by have := HLT.out; omega)⟩
 ·have HL : Hid ((Instr.loadAt 124 (.pointer (some ⟨bS, p * 71 + 33, none⟩))).run Tryz.prog w1 = .ok (.agg (enC y.v.e y.v.s)) w1) := Lib.hid (kn_load (x := y.v) (te_some HM1.out.ir hor (HP.out.dka p y hor).1).2.2)
  have HE : Hid (getN (cont A) d = some y.v) := Lib.hid (by rw [← hyd]; exact at_get HP.out.uc hor)
  obtain ⟨yv, hyv⟩ : ∃ x, y.v = x := ⟨_, rfl⟩
  rw [hyv] at HL HE
  clear hor hyd hyv
  go_wp2_with (first
   | (refine wpList_ld rfl 124 _ rfl _ rfl _ HL.out ?_)
   | (refine wpList_store_row rfl 124 _ _ rfl g1 (enC yv.e yv.s) rfl rfl 124 _ HZ1.out (knC_sizeOf yv.e _ yv.hd) ((enC_size _ _ rfl).trans (enC_size yv.e _ yv.hd).symm) (enC_one _ _ _ _) ?_; generalize hw6 : World.setRow _ _ _ = w6))
  have HM6 : Km w6 g1 yv.e yv.s := by rw [← hw6]; exact Mx.row HZ1.out
  refine bodyPost_ret (HM6.res2 yv.hd rfl _ rfl) rfl ?_
  rw [HE.out]
  exact ⟨rfl, by rw [← hw6]; exact below_setRow8 HBA.out _ _ (by have := HLT.out; omega)⟩
end Tg
/-- block bI holds an index: its table, and what is counted -/
def Hx (W : World) (bI : Nat) (v : Value) (a b : Int) : Prop := W.heap[bI]? = some (.cells #[v, .int .i64 a, .int .i64 b] 126 (0, 0))
theorem Hx.cells {W : World} {bI : Nat} {v : Value} {a b : Int} (h : Hx W bI v a b) : W.cell? ⟨bI, 0, none⟩ = some v ∧ W.cell? ⟨bI, 1, none⟩ = some (.int .i64 a) ∧ W.cell? ⟨bI, 2, none⟩ = some (.int .i64 b) :=
 ⟨cell_of_row _ _ 0 _ _ _ h, cell_of_row _ _ 1 _ _ _ h, cell_of_row _ _ 2 _ _ _ h⟩
theorem Hx.frozen {W : World} {bI : Nat} {v : Value} {a b : Int} (h : Hx W bI v a b) (j : Nat) : W.frozen? ⟨bI, j, none⟩ = false := frozen_of_row W bI j _ _ h
theorem Hx.setA {W : World} {bI : Nat} {v : Value} {a b : Int} (h : Hx W bI v a b) (a' : Int) : Hx (W.setCell ⟨bI, 1, none⟩ (.int .i64 a')) bI v a' b := heap_setCell_same W bI 1 _ _ _ h
theorem Hx.setB {W : World} {bI : Nat} {v : Value} {a b : Int} (h : Hx W bI v a b) (b' : Int) : Hx (W.setCell ⟨bI, 2, none⟩ (.int .i64 b')) bI v a b' := heap_setCell_same W bI 2 _ _ _ h
/-- the blocks of an index: its own, its table's, and F: those in which its entries' rows of segments lie -/
structure Ic (W : World) (bI : Nat) (ST F : Nat → Prop) (v : Value) (T : List (Tg.Pg Ex)) (sl a b : Int) : Prop where
 hd : Hx W bI v a b
 tb : Tg.Tb Tg.vtE W ST v T sl
 ne : ¬ ST bI
 is : ∀ x ∈ T, Is W x.v.s x.v.e.ins
 bl : ∀ x ∈ T, x.v.e.ins ≠ [] → ∀ k, x.v.s.ownBlock = some k → F k
 lt : ∀ k, F k → k < W.heap.size
 dis : ∀ k, F k → ¬ ST k ∧ k ≠ bI
section
variable {W W' : World} {bI : Nat} {ST F : Nat → Prop} {v : Value} {T : List (Tg.Pg Ex)} {sl a b : Int}
theorem Ic.keep (h : Ic W bI ST F v T sl a b) (hk : ∀ k, k = bI ∨ ST k ∨ F k → W'.heap[k]? = W.heap[k]?) (hs : W.heap.size ≤ W'.heap.size) : Ic W' bI ST F v T sl a b :=
 ⟨(hk bI (Or.inl rfl)).trans h.hd, Tg.tb_keep h.tb fun k hS => hk k (Or.inr (Or.inl hS)), h.ne, fun x hx => (h.is x hx).hold fun hne k hb => hk k (Or.inr (Or.inr (h.bl x hx hne k hb))), h.bl, fun k hF => Nat.lt_of_lt_of_le (h.lt k hF) hs, h.dis⟩
theorem Ic.bI_lt (h : Ic W bI ST F v T sl a b) : bI < W.heap.size := (Array.getElem?_eq_some_iff.1 h.hd).1
theorem Ic.all_lt (h : Ic W bI ST F v T sl a b) : ∀ k, k = bI ∨ ST k ∨ F k → k < W.heap.size := fun k hk => by
 rcases hk with rfl | hk | hk
 ·exact h.bI_lt
 ·exact Tg.tb_lt h.tb k hk
 ·exact h.lt k hk
theorem Ic.later (h : Ic W bI ST F v T sl a b) (hb : Below W.heap.size W W') : Ic W' bI ST F v T sl a b := h.keep (fun k hk => hb.block k (h.all_lt k hk)) hb.size
theorem Ic.cell (h : Ic W bI ST F v T sl a b) {W' : World} {a' b' : Int} (hx : Hx W' bI v a' b') (hk : ∀ k, k ≠ bI → W'.heap[k]? = W.heap[k]?) (hs : W.heap.size ≤ W'.heap.size) : Ic W' bI ST F v T sl a' b' :=
 ⟨hx, Tg.tb_keep h.tb fun k hS => hk k (fun e => h.ne (by rw [← e]; exact hS)), h.ne, fun x hx => (h.is x hx).hold fun hne k hb => hk k (h.dis k (h.bl x hx hne k hb)).2, h.bl, fun k hF => Nat.lt_of_lt_of_le (h.lt k hF) hs, h.dis⟩
theorem Ic.setA (h : Ic W bI ST F v T sl a b) (a' : Int) : Ic (W.setCell ⟨bI, 1, none⟩ (.int .i64 a')) bI ST F v T sl a' b :=
 h.cell (h.hd.setA a') (fun k hk => heap_setCell_other W ⟨bI, 1, none⟩ k _ hk) (by rw [World.size_setCell]; exact Nat.le_refl _)
theorem Ic.setB (h : Ic W bI ST F v T sl a b) (b' : Int) : Ic (W.setCell ⟨bI, 2, none⟩ (.int .i64 b')) bI ST F v T sl a b' :=
 h.cell (h.hd.setB b') (fun k hk => heap_setCell_other W ⟨bI, 2, none⟩ k _ hk) (by rw [World.size_setCell]; exact Nat.le_refl _)
theorem Ic.chgC (h : Ic W bI ST F v T sl a b) (j : Nat) (u : Value) : Chg (fun k => k = bI) W (W.setCell ⟨bI, j, none⟩ u) := by
 rw [setCell_eq_setRow W bI j _ _ _ _ h.hd]
 exact ⟨setRow_os _ _ _, setRow_tape _ _ _, setRow_output _ _ _, by rw [setRow_size]; exact Nat.le_refl _, fun k _ hk => setRow_other W bI k _ hk⟩
theorem tb_uq (h : Tg.Tb Tg.vtE W ST v T sl) : Tg.Uniq T := by
 obtain ⟨bT, bS, A, c, rfl, rfl, hm, hp⟩ := h
 exact hp.uq
theorem tb_dk (h : Tg.Tb Tg.vtE W ST v T sl) : ∀ x ∈ T, dok x.dg := by
 obtain ⟨bT, bS, A, c, rfl, rfl, hm, hp⟩ := h
 exact hp.dk
end
/-- what a digest weighs in a table -/
def oT (f : Pe → Int) (T : List (Tg.Pg Ex)) (d : List Int) : Int := match Tg.getN T d with
 | some x => f x.e
 | none => 0
theorem oT_of {f : Pe → Int} {T : List (Tg.Pg Ex)} {d : List Int} : oT f T d = if (Tg.getN T d).isSome then f ((Tg.getN T d).getD Tg.exZ).e else 0 := by
 unfold oT
 cases Tg.getN T d <;> rfl
theorem IxP.oT {T : List (Tg.Pg Ex)} {L : List Pe} (h : IxP T L) (hu : Tg.Uniq T) (f : Pe → Int) (d : List Int) : Go.Proofs.YtpfbfhigelbfcaaGreat.oT f T d = oW f (getE L d) := by
 rw [← h.get hu d]
 unfold Go.Proofs.YtpfbfhigelbfcaaGreat.oT
 cases Tg.getN T d <;> rfl
/-- what count leaves -/
def CntQ (w : World) (bI : Nat) (ST F : Nat → Prop) (v : Value) (T : List (Tg.Pg Ex)) (sl a z : Int) (d : List Int) (t : Int) (e : Ending) (w' : World) : Prop :=
 e = .returned (.tuple #[]) ∧ Ic w' bI ST F v T sl (a + t * oT wgC T d) (IntKind.i64.wrap (z + t * oT wgZ T d)) ∧ Chg (fun k => k = bI) w w'
set_option maxRecDepth 100000 in
set_option maxHeartbeats 4000000 in
theorem count_any {w : World} {bI : Nat} {ST F : Nat → Prop} {v : Value} {T : List (Tg.Pg Ex)} {sl a z : Int} (d : List Int) (t : Int) (h : Ic w bI ST F v T sl a (IntKind.i64.wrap z)) (hd : dok d) (ht : t = 1 ∨ t = -1) (ha : -2 ≤ a ∧ a ≤ 8388608) :
 Calls Tryz.prog 105 #[.pointer (some ⟨bI, 0, none⟩), .agg (bcs d), .int .i64 t] w fun e w' => CntQ w bI ST F v T sl a z d t e w' := by
 obtain ⟨w0, hw0⟩ : ∃ W, w.alloc (.cells (bcs d) 35) = W := ⟨_, rfl⟩
 obtain ⟨B, hB⟩ : ∃ x, w.heap.size = x := ⟨_, rfl⟩
 have hb0 : Below B w w0 := by rw [← hw0, ← hB]; exact (Below.refl _ _).alloc (Nat.le_refl _) _
 have hy : Yw w0 B 35 d := by rw [← hw0, ← hB]; exact heap_alloc_new _ _
 have HLD : Hid (∀ W, Below w0.heap.size w0 W → (Instr.loadAt 35 (.pointer (some ⟨B, 0, none⟩))).run Tryz.prog W = .ok (.agg (bcs d)) W) := Lib.hid fun W hW => Tg.yw_dig (hy.later hW) hd.1
 have HI0 := Lib.hid (h.later (by rw [hB]; exact hb0))
 have HC0 : Hid (Chg (fun k => k = bI) w w0) := Lib.hid (Chg.of_below (by rw [hB]; exact hb0))
 have HBL : Hid (bI < w0.heap.size) := Lib.hid HI0.out.bI_lt
 have HO1 := Lib.hid (oT_of (f := wgC) (T := T) (d := d))
 have HO2 := Lib.hid (oT_of (f := wgZ) (T := T) (d := d))
 obtain ⟨x, hx⟩ : ∃ x, (Tg.getN T d).getD Tg.exZ = x := ⟨_, rfl⟩
 obtain ⟨fb, hfb⟩ : ∃ b, (Tg.getN T d).isSome = b := ⟨_, rfl⟩
 have HG : Hid (∀ W, Below w0.heap.size w0 W → Calls Tryz.prog 77 #[v, .agg (bcs d)] W fun e w' => e = .returned (.tuple #[enV x.e x.s, .bool fb]) ∧ Below W.heap.size W w') := Lib.hid fun W hW => by
  have h1 := Tg.get_any d (HI0.out.later hW).tb hd
  unfold Tg.GetT at h1
  rw [hx, hfb] at h1
  exact h1
 rw [hx, hfb] at HO1 HO2
 have HSS : Hid (∀ W, Below w0.heap.size w0 W → (fun W : World => W.cell? ⟨bI, 0, none⟩ = some v ∧ Below w0.heap.size w0 W) W) := Lib.hid fun W hW => ⟨(HI0.out.later hW).hd.cells.1, hW⟩
 have HT := Lib.hid ht
 obtain ⟨ha0, ha1⟩ := ha
 clear h hd ht hb0 hy hx hfb
 generalize hM : bcs d = M at *
 clear hM
 go_enter Tryz.func105, Tryz.ntmps105
 go_upto_region 1 with fail
 go_cut [6, 7] (fun g fq wx => ∃ G : Nat, g = .pointer (some ⟨G, 0, none⟩) ∧ fq = .bool fb ∧ Hid (Km wx G x.e x.s) ∧ Hid (w0.heap.size ≤ G) ∧ Hid (Below w0.heap.size w0 wx))
 case first =>
  refine wp_region_held_drew (S := (fun W : World => W.cell? ⟨bI, 0, none⟩ = some v ∧ Below w0.heap.size w0 W)) (by kernel_rfl) (HSS.out _ (Below.refl _ _).drew) (fun hHeld => ?_)
  refine tk 0 rfl ?_;(try simp only [PT]);refine tk 1 rfl ?_;(try simp only [PT]);refine tk 2 rfl ?_;(try simp only [PT]);refine tk 3 rfl ?_;(try simp only [PT])
  refine tkL 4 rfl (yieldsIf_ld (by rfl) 35 (.tmp 4) rfl (.pointer (some ⟨B, 0, none⟩)) rfl (.agg M) (fun W hW => HLD.out W hW.2)) ?_
  (try simp only [PT])
  obtain ⟨y0, hy0⟩ : ∃ X, w0.drew = X := ⟨_, rfl⟩
  have HY0 : Hid (Below w0.heap.size w0 y0) := Lib.hid (by rw [← hy0]; exact (Below.refl _ _).drew)
  rw [hy0]
  clear hy0 hHeld
  have hHeld := HSS.out _ HY0.out
  refine wpAnyH_ready (rs := [5, 9]) (by kernel_rfl) (by simp) (all_at 5 rfl (fun K hK => ?ofc) (all_at 9 rfl (fun K hK => ?ofa) AllReadyH.nil))
  case ofc =>
   go_simp
   refine (HG.out _ HY0.out).mono ?_
   rintro ex y1 ⟨rfl, hb⟩
   have HX5 : Hid (Below y0.heap.size y0 y1) := Lib.hid hb
   clear hb
   (try dsimp only)
   first
    | refine hK.out _ _ ?hS6 (fun hHeld => ?rr6)
    | (go_wp2_with fail; refine hK.out _ _ ?hS6 (fun hHeld => ?rr6))
   case hS6 => exact HSS.out _ (below_step HY0.out HX5.out)
   clear hK K
   (try simp only [PT])
   have HY1 := Lib.hid (below_step HY0.out HX5.out)
   clear hHeld
   have hHeld := HSS.out _ HY1.out
   refine tk 6 rfl ?_;(try simp only [PT]);refine tk 7 rfl ?_;(try simp only [PT]);refine tk 8 rfl ?_;(try simp only [PT])
   refine ready_at 9 rfl (by kernel_rfl) (fun K hK => ?_)
   go_simp
   first
    | refine hK.out _ _ ?hS11 (fun hHeld => ?rr11)
    | (go_wp2_with fail; refine hK.out _ _ ?hS11 (fun hHeld => ?rr11))
   case hS11 => exact HSS.out _ (HY1.out.alloc HY1.out.size _)
   clear hK K
   (try simp only [PT])
   obtain ⟨y2, hy⟩ : ∃ X, y1.alloc (.cells (enC zeroE (.slice none 0 0)) 124) = X := ⟨_, rfl⟩
   rw [enZero] at hy
   rw [hy]
   obtain ⟨G, hG⟩ : ∃ x, y1.heap.size = x := ⟨_, rfl⟩
   rw [hG]
   rw [← enZero] at hy
   have HX10 : Hid (Below y1.heap.size y1 y2) := Lib.hid (by rw [← hy]; exact (Below.refl _ _).alloc (Nat.le_refl _) _)
   have HZ10 : Hid (Km y2 G zeroE (.slice none 0 0)) := Lib.hid (by rw [← hG, ← hy]; exact heap_alloc_new _ _)
   have HGB : Hid (w0.heap.size ≤ G) := Lib.hid (by rw [← hG]; exact HY1.out.size)
   clear hy hG
   have HY2 := Lib.hid (below_step HY1.out HX10.out)
   clear hHeld
   have hHeld := HSS.out _ HY2.out
   refine ready_at 10 rfl (by kernel_rfl) (fun K hK => ?_)
   rw [if_pos (by rfl)]
   refine wp_store_row 124 _ _ rfl G (enC x.e x.s) rfl rfl 124 _ HZ10.out (knC_sizeOf x.e _ x.hd) ((enC_size _ _ rfl).trans (enC_size x.e _ x.hd).symm) (enC_one _ _ _ _) ?_
   have HZ12 := Lib.hid (Mx.row (a' := []) (dg' := x.e.dg) (z' := x.e.t x.s) HZ10.out)
   have HW12 := Lib.hid (below_setRow8 HY2.out G (enC x.e x.s) HGB.out)
   refine hK.out _ _ ?hS13 (fun hHeld => ?rr13)
   case hS13 => exact HSS.out _ HW12.out
   clear hK K
   (try simp only [PT])
   refine tk 11 rfl ?_;(try simp only [PT])
   refine wpAnyH_done (by kernel_rfl) ?_ _
   go_wp2_with fail
   go_meet
   exact ⟨G, rfl, rfl, HZ12, HGB, HW12⟩
  case ofa =>
   go_simp
   first
    | refine hK.out _ _ ?hS16 (fun hHeld => ?rr16)
    | (go_wp2_with fail; refine hK.out _ _ ?hS16 (fun hHeld => ?rr16))
   case hS16 => exact HSS.out _ (HY0.out.alloc HY0.out.size _)
   clear hK K
   (try simp only [PT])
   obtain ⟨y1, hy⟩ : ∃ X, y0.alloc (.cells (enC zeroE (.slice none 0 0)) 124) = X := ⟨_, rfl⟩
   rw [enZero] at hy
   rw [hy]
   obtain ⟨G, hG⟩ : ∃ x, y0.heap.size = x := ⟨_, rfl⟩
   rw [hG]
   rw [← enZero] at hy
   have HX15 : Hid (Below y0.heap.size y0 y1) := Lib.hid (by rw [← hy]; exact (Below.refl _ _).alloc (Nat.le_refl _) _)
   have HZ15 : Hid (Km y1 G zeroE (.slice none 0 0)) := Lib.hid (by rw [← hG, ← hy]; exact heap_alloc_new _ _)
   have HGB : Hid (w0.heap.size ≤ G) := Lib.hid (by rw [← hG]; exact HY0.out.size)
   clear hy hG
   have HY1 := Lib.hid (below_step HY0.out HX15.out)
   clear hHeld
   have hHeld := HSS.out _ HY1.out
   refine ready_at 5 rfl (by kernel_rfl) (fun K hK => ?_)
   go_simp
   refine (HG.out _ HY1.out).mono ?_
   rintro ex y2 ⟨rfl, hb⟩
   have HX17 : Hid (Below y1.heap.size y1 y2) := Lib.hid hb
   clear hb
   (try dsimp only)
   first
    | refine hK.out _ _ ?hS18 (fun hHeld => ?rr18)
    | (go_wp2_with fail; refine hK.out _ _ ?hS18 (fun hHeld => ?rr18))
   case hS18 => exact HSS.out _ (below_step HY1.out HX17.out)
   clear hK K
   (try simp only [PT])
   have HY2 := Lib.hid (below_step HY1.out HX17.out)
   clear hHeld
   have hHeld := HSS.out _ HY2.out
   refine tk 6 rfl ?_;(try simp only [PT]);refine tk 7 rfl ?_;(try simp only [PT]);refine tk 8 rfl ?_;(try simp only [PT])
   have HZL := Lib.hid (Mx.later HZ15.out HX17.out)
   refine ready_at 10 rfl (by kernel_rfl) (fun K hK => ?_)
   rw [if_pos (by rfl)]
   refine wp_store_row 124 _ _ rfl G (enC x.e x.s) rfl rfl 124 _ HZL.out (knC_sizeOf x.e _ x.hd) ((enC_size _ _ rfl).trans (enC_size x.e _ x.hd).symm) (enC_one _ _ _ _) ?_
   have HZ22 := Lib.hid (Mx.row (a' := []) (dg' := x.e.dg) (z' := x.e.t x.s) HZL.out)
   have HW22 := Lib.hid (below_setRow8 HY2.out G (enC x.e x.s) HGB.out)
   refine hK.out _ _ ?hS23 (fun hHeld => ?rr23)
   case hS23 => exact HSS.out _ HW22.out
   clear hK K
   (try simp only [PT])
   refine tk 11 rfl ?_;(try simp only [PT])
   refine wpAnyH_done (by kernel_rfl) ?_ _
   go_wp2_with fail
   go_meet
   exact ⟨G, rfl, rfl, HZ22, HGB, HW22⟩
 case rest =>
  obtain ⟨G, rfl, rfl, HKM, HGB, HBC⟩ := hcut
  have HIX := Lib.hid (HI0.out.later HBC.out)
  have HCX := Lib.hid (HC0.out.tr (Chg.of_below (S := fun k => k = bI) HBC.out) (fun b hb => Or.inl hb))
  obtain ⟨c0, c1, c2⟩ := HIX.out.hd.cells
  obtain ⟨k0, k1, _⟩ := HKM.out.cells x.hd
  cases fb with
  | false =>
    go_wp2
    refine bodyPost_end (results_none rfl _ _ _) rfl ?_
    refine ⟨rfl, ?_, HCX.out⟩
    rw [HO1.out, HO2.out]
    simpa using HIX.out
  | true =>
    by_cases hk : x.e.k = 5
    ·have hkb : (x.e.k != 5) = false := by simpa using hk
     have HK := Lib.hid hk
     generalize x.e.k = kk at k0 hkb
     clear hk
     go_wp2
     refine bodyPost_end (results_none rfl _ _ _) rfl ?_
     refine ⟨rfl, ?_, HCX.out⟩
     rw [HO1.out, HO2.out]
     unfold wgC wgZ
     simpa [HK.out] using HIX.out
    ·have hkb : (x.e.k != 5) = true := by simpa using hk
     have HK := Lib.hid hk
     generalize x.e.k = kk at k0 hkb
     clear hk
     have hwa : IntKind.i64.wrap (a + t) = a + t := by have := HT.out; rw [IntKind.wrap_i64]; omega
     have hf1 := HIX.out.hd.frozen 1
     have hbi : bI ≠ G := by have h1 := HBL.out; have h2 := HGB.out; omega
     have HI1 := Lib.hid (HIX.out.setA (a + t))
     have HC1 := Lib.hid (HCX.out.tr (HIX.out.chgC 1 (.int .i64 (a + t))) (fun b hb => Or.inl hb))
     have HK1 := Lib.hid (show Km _ G x.e x.s from Mx.other HKM.out ⟨bI, 1, none⟩ (.int .i64 (a + t)) (fun e => hbi e.symm))
     go_upto_region 4 with fail
     generalize World.setCell _ _ _ = w3 at *
     obtain ⟨d0, d1, d2⟩ := HI1.out.hd.cells
     obtain ⟨l0, l1, _⟩ := HK1.out.cells x.hd
     have hf2 := HI1.out.hd.frozen 2
     have HWZ : Hid (IntKind.i64.wrap (IntKind.i64.wrap z + IntKind.i64.wrap (t * x.e.z)) = IntKind.i64.wrap (z + t * x.e.z)) := Lib.hid (wrap_add2 _ _)
     have HI2 := Lib.hid ((HI1.out.setB (IntKind.i64.wrap (IntKind.i64.wrap z + IntKind.i64.wrap (t * x.e.z)))).later ((Below.refl _ _).drew))
     have HC2 := Lib.hid ((HC1.out.tr (HI1.out.chgC 2 (.int .i64 (IntKind.i64.wrap (IntKind.i64.wrap z + IntKind.i64.wrap (t * x.e.z))))) (fun b hb => Or.inl hb)).tr (Chg.of_below (S := fun k => k = bI) ((Below.refl _ _).drew)) (fun b hb => Or.inl hb))
     generalize hW1 : IntKind.i64.wrap z = z1 at *
     generalize hZZ : x.e.z = zz at *
     clear hW1 c0 c1 c2 k0 k1
     go_region
     go_wp2
     refine bodyPost_end (results_none rfl _ _ _) rfl ?_
     have e1 := IntWalk.i64_left (t * zz)
     have e2 := IntWalk.i64_left (z1 + IntKind.i64.wrap (t * zz))
     rw [e1] at e2
     rw [e1, e2] at HI2 HC2 HWZ
     refine ⟨rfl, ?_, HC2.out⟩
     rw [HO1.out, HO2.out]
     unfold wgC wgZ
     rw [hZZ]
     simp only [if_pos HK.out, if_true, Int.mul_one]
     rw [← HWZ.out]
     exact HI2.out
namespace Tg
theorem te_store {W : World} {bT bS : Nat} {A : Sg Ex} {c : Nat} (h : Tm vtE W bT bS A c) {p : Nat} (hp : p < A.length) (z : Option (Pg Ex)) : Tm vtE (W.setCells bS (p * 71) ((encSl vtE).f z)) bT bS (A.set p z) c := h.store hp z
theorem te_store_chg {W : World} {bT bS : Nat} {A : Sg Ex} {c : Nat} (h : Tm vtE W bT bS A c) {p : Nat} (hp : p < A.length) (z : Option (Pg Ex)) : Chg (fun b => b = bT ∨ b = bS) W (W.setCells bS (p * 71) ((encSl vtE).f z)) := h.store_chg hp z
set_option maxRecDepth 100000 in
theorem built_te32 (k z g o l : Int) (p : Option Addr) (n c : Nat) (a0 a1 a2 a3 a4 a5 a6 a7 a8 a9 a10 a11 a12 a13 a14 a15 a16 a17 a18 a19 a20 a21 a22 a23 a24 a25 a26 a27 a28 a29 a30 a31 b0 b1 b2 b3 b4 b5 b6 b7 b8 b9 b10 b11 b12 b13 b14 b15 b16 b17 b18 b19 b20 b21 b22 b23 b24 b25 b26 b27 b28 b29 b30 b31 : Int) : Tryz.prog.built 164 [(0, .bool true), (1, .agg (bcs [a0, a1, a2, a3, a4, a5, a6, a7, a8, a9, a10, a11, a12, a13, a14, a15, a16, a17, a18, a19, a20, a21, a22, a23, a24, a25, a26, a27, a28, a29, a30, a31])), (2, .agg (mixC [] [b0, b1, b2, b3, b4, b5, b6, b7, b8, b9, b10, b11, b12, b13, b14, b15, b16, b17, b18, b19, b20, b21, b22, b23, b24, b25, b26, b27, b28, b29, b30, b31] [.int .i64 k, .int .i64 z, .int .i64 g, .int .i64 o, .int .i64 l, .slice p n c]))] = some (mixL [.bool true] [a0, a1, a2, a3, a4, a5, a6, a7, a8, a9, a10, a11, a12, a13, a14, a15, a16, a17, a18, a19, a20, a21, a22, a23, a24, a25, a26, a27, a28, a29, a30, a31] (mixL [] [b0, b1, b2, b3, b4, b5, b6, b7, b8, b9, b10, b11, b12, b13, b14, b15, b16, b17, b18, b19, b20, b21, b22, b23, b24, b25, b26, b27, b28, b29, b30, b31] [.int .i64 k, .int .i64 z, .int .i64 g, .int .i64 o, .int .i64 l, .slice p n c])).toArray := by kernel_rfl
theorem built_sl (x : Ex) (d : List Int) (h : d.length = 32) : Tryz.prog.built 164 [(0, .bool true), (1, .agg (bcs d)), (2, .agg (enC x.e x.s))] = some ((encSl vtE).f (some ⟨d, x⟩)).toArray := by
 have e2 : (encSl vtE).f (some ⟨d, x⟩) = mixL [.bool true] d (mixL [] x.e.dg (x.e.t x.s)) := by
  show mixL [.bool true] (fix32 d) (mixL [] x.e.dg (x.e.t x.s)) = _
  rw [fix32_same h]
 rw [e2]
 unfold enC
 have e := list32S h
 have e' := list32S x.hd
 rw [e, e']
 exact built_te32 x.e.k x.e.z x.e.seg x.e.off x.e.len _ _ _ (d.getD 0 0) (d.getD 1 0) (d.getD 2 0) (d.getD 3 0) (d.getD 4 0) (d.getD 5 0) (d.getD 6 0) (d.getD 7 0) (d.getD 8 0) (d.getD 9 0) (d.getD 10 0) (d.getD 11 0) (d.getD 12 0) (d.getD 13 0) (d.getD 14 0) (d.getD 15 0) (d.getD 16 0) (d.getD 17 0) (d.getD 18 0) (d.getD 19 0) (d.getD 20 0) (d.getD 21 0) (d.getD 22 0) (d.getD 23 0) (d.getD 24 0) (d.getD 25 0) (d.getD 26 0) (d.getD 27 0) (d.getD 28 0) (d.getD 29 0) (d.getD 30 0) (d.getD 31 0) (x.e.dg.getD 0 0) (x.e.dg.getD 1 0) (x.e.dg.getD 2 0) (x.e.dg.getD 3 0) (x.e.dg.getD 4 0) (x.e.dg.getD 5 0) (x.e.dg.getD 6 0) (x.e.dg.getD 7 0) (x.e.dg.getD 8 0) (x.e.dg.getD 9 0) (x.e.dg.getD 10 0) (x.e.dg.getD 11 0) (x.e.dg.getD 12 0) (x.e.dg.getD 13 0) (x.e.dg.getD 14 0) (x.e.dg.getD 15 0) (x.e.dg.getD 16 0) (x.e.dg.getD 17 0) (x.e.dg.getD 18 0) (x.e.dg.getD 19 0) (x.e.dg.getD 20 0) (x.e.dg.getD 21 0) (x.e.dg.getD 22 0) (x.e.dg.getD 23 0) (x.e.dg.getD 24 0) (x.e.dg.getD 25 0) (x.e.dg.getD 26 0) (x.e.dg.getD 27 0) (x.e.dg.getD 28 0) (x.e.dg.getD 29 0) (x.e.dg.getD 30 0) (x.e.dg.getD 31 0)
theorem sl_sz (z : Option (Pg Ex)) : ((encSl vtE).f z).toArray.size = 71 := by rw [List.size_toArray]; exact (encSl vtE).len z
/-- what double leaves -/
def GrQ (W : World) (bT : Nat) (A : Sg Ex) (c : Nat) (e : Ending) (w' : World) : Prop :=
 ∃ bS2 A2, e = .returned (.tuple #[]) ∧ Tm vtE w' bT bS2 A2 c ∧ GrP A A2 ∧ Chg (fun b => b = bT) W w' ∧ W.heap.size ≤ bS2
def GrowOk : Prop := ∀ (W : World) (bT bS : Nat) (A : Sg Ex) (c : Nat), Tm vtE W bT bS A c → Inv A → Uniq (cont A) → (∀ p x, atS A p = some x → dok x.dg) → (cont A).length < A.length → 8 ≤ A.length → A.length ≤ 2097152 →
 Calls Tryz.prog 133 #[.pointer (some ⟨bT, 0, none⟩)] W fun e w' => GrQ W bT A c e w'
/-- what Put leaves -/
def PutQ (w : World) (S : Nat → Prop) (v : Value) (L : List (Pg Ex)) (d : List Int) (x : Ex) (s : Int) (e : Ending) (w' : World) : Prop :=
 ∃ S', e = .returned (.tuple #[]) ∧ Tb vtE w' S' v (putN L d x) (slotsN L s d) ∧ Chg S w w' ∧ ∀ b, S' b → S b ∨ w.heap.size ≤ b
set_option maxRecDepth 100000 in
set_option maxHeartbeats 4000000 in
theorem put_any (hG : GrowOk) {w : World} {S : Nat → Prop} {v : Value} {L : List (Pg Ex)} {s : Int} (d : List Int) (x : Ex) (h : Tb vtE w S v L s) (hd : dok d) (hL : L.length ≤ 1048576) :
 Calls Tryz.prog 106 #[v, .agg (bcs d), .agg (enC x.e x.s)] w fun e w' => PutQ w S v L d x s e w' := by
 obtain ⟨bT, bS, A, c, rfl, rfl, hm, hp⟩ := h
 obtain ⟨wA, w0, g1, hwA, hw0, hg1, hX⟩ := box2 w (bcs d) (enC x.e x.s) 35 124
 obtain ⟨B, hB⟩ : ∃ g, w.heap.size = g := ⟨_, rfl⟩
 have hb0 : Below B w w0 := by rw [← hB]; exact hX.le
 have hy : Yw w0 B 35 d := by rw [← hB]; exact hX.a
 have hz : Km w0 g1 x.e x.s := hX.z
 have hBS : ¬ (B = bT ∨ B = bS) := by have h1 := hm.lt; have h2 := hm.ir.lt; omega
 have hGS : ¬ (g1 = bT ∨ g1 = bS) := by have h1 := hm.lt; have h2 := hm.ir.lt; have h3 := hX.lt.1; omega
 have HLD : Hid (∀ W, Chg (fun b => b = bT ∨ b = bS) w0 W → (Instr.loadAt 35 (.pointer (some ⟨B, 0, none⟩))).run Tryz.prog W = .ok (.agg (bcs d)) W) := Lib.hid fun W hW => yw_dig (show Yw W B 35 d from (hW.block B (Array.getElem?_eq_some_iff.1 hy).1 hBS).trans hy) hd.1
 have HLE : Hid (∀ W, Chg (fun b => b = bT ∨ b = bS) w0 W → (Instr.loadAt 124 (.pointer (some ⟨g1, 0, none⟩))).run Tryz.prog W = .ok (.agg (enC x.e x.s)) W) := Lib.hid fun W hW => Km.load (show Km W g1 x.e x.s from (hW.block g1 hX.lt.2 hGS).trans hz) x.hd
 have HCR : Hid (Chg (fun b => b = bT ∨ b = bS) w0 w0) := Lib.hid (Chg.refl _ _)
 have HBE := Lib.hid (Below.refl w0.heap.size w0)
 have HM0 := Lib.hid (hm.later (by rw [hB]; exact hb0))
 have HB0 : Hid (Chg (fun b => b = bT ∨ b = bS) w w0) := Lib.hid (Chg.of_below (by rw [hB]; exact hb0))
 have HP := Lib.hid hp
 have HD := Lib.hid hd
 have HLL := Lib.hid hL
 have HG := Lib.hid hG
 have HBL := Lib.hid (built_sl x d hd.1)
 have HFI := Lib.hid fun W (hW : Below w0.heap.size w0 W) => find_any d (HM0.out.later hW) hp.dka hp.free hp.n4 hd
 have hcn : c ≤ 1048576 := by rw [hp.cnt]; exact hL
 have hc3 : 4 * c ≤ 3 * A.length := by rw [hp.cnt]; exact hp.load
 have hn4 := hp.n4
 have hn8 := hp.n8
 have hdv := hp.dv
 clear hG hm hp hd hL hb0 hy hBS hGS hz hX
 obtain ⟨n, hn⟩ : ∃ n, A.length = n := ⟨_, rfl⟩
 have HN := Lib.hid hn
 rw [hn] at hn4 hn8 hc3 hdv
 generalize hM : bcs d = M at *
 generalize hMX : enC x.e x.s = MX at *
 have HMM := Lib.hid hM
 clear hM hn hMX
 go_enter Tryz.func106, Tryz.ntmps106
 go_upto_region 3 with (first
  | (refine wpList_ld rfl 35 _ rfl _ rfl _ (HLD.out _ HCR.out) ?_)
  | (go_at_call 109; refine (HFI.out _ HBE.out).mono ?_; rintro e w1 ⟨t, fb, rfl, htn, hpre, hor, hb1⟩))
 clear hwA hw0 hg1
 have HM1 := Lib.hid (HM0.out.later hb1)
 have HC1 : Hid (Chg (fun b => b = bT ∨ b = bS) w0 w1) := Lib.hid (Chg.of_below hb1)
 have HPRE := Lib.hid hpre
 have hpl : posN A d t < n := by rw [← HN.out]; exact posN_lt (by omega) d t
 have HTN := Lib.hid htn
 obtain ⟨p, hpp⟩ : ∃ p, posN A d t = p := ⟨_, rfl⟩
 have HPP := Lib.hid hpp
 rw [hpp] at hor hpl
 rw [hpp]
 have HPL : Hid (p < A.length) := Lib.hid (by rw [HN.out]; exact hpl)
 have hpi : (p : Int) < (n : Int) := by omega
 have hp0 : (0 : Int) ≤ (p : Int) := by omega
 clear hpre hpp htn hb1
 rcases hor with ⟨rfl, hor⟩ | ⟨rfl, y, hor, hyd⟩
 ·obtain ⟨q0, q1⟩ := HM1.out.cells
  have HAT := Lib.hid hor
  have HGN : Hid (getN (cont A) d = none) := Lib.hid (HPRE.out.none HP.out.iv (by rw [HPP.out]; exact HAT.out))
  obtain ⟨m, hm3⟩ : ∃ m, n / 4 * 3 = m := ⟨_, rfl⟩
  have HMO : Hid (∀ W, Below w1.heap.size w1 W → Calls Tryz.prog 132 #[.pointer (some ⟨bT, 0, none⟩)] W fun e w' => e = .returned (.int .i64 (m : Int)) ∧ Below W.heap.size W w') := Lib.hid fun W hW => by
   have h1 := most_any (HM1.out.later hW) (by rw [HN.out]; exact hn4)
   rw [HN.out, hm3] at h1
   exact h1
  have HM3 := Lib.hid hm3
  rw [HN.out] at q0
  clear hor hm3 q0
  refine wp_region_held_drew (S := (fun W : World => W.cell? ⟨bT, 1, none⟩ = some (.int .i64 (c : Int)) ∧ Below w1.heap.size w1 W)) (by kernel_rfl) ⟨q1, (Below.refl _ _).drew⟩ (fun hHeld => ?_)
  refine tk 0 rfl ?_;(try simp only [PT]);refine tk 1 rfl ?_;(try simp only [PT]);refine tk 2 rfl ?_;(try simp only [PT]);refine tk 3 rfl ?_;(try simp only [PT]);refine tk 4 rfl ?_;(try simp only [PT]);refine tk 5 rfl ?_;(try simp only [PT]);refine tk 6 rfl ?_;(try simp only [PT]);refine tk 7 rfl ?_;(try simp only [PT])
  refine ready_at 8 rfl (by kernel_rfl) (fun K hK => ?_)
  go_simp
  refine (HMO.out _ hHeld.2).mono ?_
  rintro e wd ⟨rfl, hbd0⟩
  have hbd := below_step hHeld.2 hbd0
  have r1 := (HM1.out.later hbd).cells.2
  clear hbd0
  first
   | refine hK.out _ _ ?hS9 (fun hHeld => ?rest9)
   | (go_wp2_with fail; refine hK.out _ _ ?hS9 (fun hHeld => ?rest9))
  case hS9 => exact ⟨r1, hbd⟩
  clear hK K
  (try simp only [PT])
  refine tk 9 rfl ?_;(try simp only [PT]);refine tk 10 rfl ?_;(try simp only [PT])
  refine wpAnyH_done (by kernel_rfl) ?_ _
  have HMD := Lib.hid (HM1.out.later hbd)
  have HCD : Hid (Chg (fun b => b = bT ∨ b = bS) w0 wd) := Lib.hid (Chg.tr HC1.out (Chg.of_below (S := fun b => b = bT ∨ b = bS) hbd) (fun b hb => Or.inl hb))
  clear q1 hbd
  by_cases hc : c = m
  ·have HC : Hid (3 * A.length < 4 * (c + 1)) := Lib.hid (by rw [HN.out]; have := HM3.out; omega)
   have hn2 : n ≤ 2097152 := by have := HM3.out; omega
   have HN2 := Lib.hid hn2
   have hci : ((c : Int) == (m : Int)) = true := by rw [hc]; simp
   have hcd : (c : Int) = (m : Int) := by omega
   have HGR := Lib.hid (HG.out wd bT bS A c HMD.out HP.out.iv HP.out.uc HP.out.dka HP.out.free HP.out.n8 (by rw [HN.out]; exact HN2.out))
   clear hc hcd
   go_upto_region 7 with (first
    | (go_at_call 133; refine HGR.out.mono ?_; rintro e w2 ⟨bS2, A2, rfl, hm2, hgp, hcg, hs2⟩; have HM2 := Lib.hid hm2; have HGP := Lib.hid hgp; have HC2 : Hid (Chg (fun b => b = bT ∨ b = bS) w0 w2) := (Lib.hid (Chg.tr HCD.out hcg (fun b hb => Or.inl (Or.inl hb)))); have HS2 : Hid (w0.heap.size ≤ bS2) := (Lib.hid (Nat.le_trans HCD.out.size hs2)); have HF2 := (Lib.hid (fun W (hW : Below w2.heap.size w2 W) => find_any d (HM2.out.later hW) (fun q z hz => (mem_cont.1 (HGP.out.pm.mem_iff.1 (mem_cont.2 ⟨q, hz⟩))).elim fun q2 hq2 => HP.out.dka q2 z hq2) (by rw [HGP.out.pm.length_eq, HGP.out.len]; have := HP.out.free; omega) (by rw [HGP.out.len, HN.out]; have := HN2.out; omega) HD.out)); rw [HMM.out] at HF2; have HBE2 := (Lib.hid (Below.refl w2.heap.size w2)); clear hm2 hgp hcg hs2)
    | (refine wpList_ld rfl 35 _ rfl _ rfl _ (HLD.out _ HC2.out) ?_)
    | (go_at_call 109; refine (HF2.out _ HBE2.out).mono ?_; rintro e w3 ⟨t2, fb2, rfl, htn2, hpre2, hor2, hb3⟩))
   obtain ⟨n2, hn2'⟩ : ∃ g, A2.length = g := ⟨_, rfl⟩
   have HNN := Lib.hid hn2'
   have hn28 : 8 ≤ n2 := by rw [← hn2', HGP.out.len]; have := HP.out.n8; omega
   have HM3' := Lib.hid (HM2.out.later hb3)
   have HC3 : Hid (Chg (fun b => b = bT ∨ b = bS) w0 w3) := Lib.hid (Chg.tr HC2.out (Chg.of_below (S := fun b => b = bT ∨ b = bS) hb3) (fun b hb => Or.inl hb))
   have HPRE2 := Lib.hid hpre2
   have hpl2 : posN A2 d t2 < n2 := by rw [← HNN.out]; exact posN_lt (by omega) d t2
   have HTN2 := Lib.hid htn2
   obtain ⟨p2, hpp2⟩ : ∃ p, posN A2 d t2 = p := ⟨_, rfl⟩
   have HPP2 := Lib.hid hpp2
   rw [hpp2] at hor2 hpl2
   rw [hpp2]
   have HPL2 : Hid (p2 < A2.length) := Lib.hid (by rw [HNN.out]; exact hpl2)
   have hpi2 : (p2 : Int) < (n2 : Int) := by omega
   have hp02 : (0 : Int) ≤ (p2 : Int) := by omega
   have hat2 : atS A2 p2 = none := by
    rcases hor2 with ⟨_, e⟩ | ⟨_, y, e, hyd⟩
    ·exact e
    ·exfalso
     have h1 := HGN.out
     rw [getN_none] at h1
     exact h1 y (HGP.out.pm.mem_iff.1 (mem_cont.2 ⟨p2, e⟩)) hyd
   have HTP := Lib.hid (HP.out.put_grow HGN.out HGP.out HPRE2.out HTN2.out (by rw [HPP2.out]; exact hat2) HD.out x HC.out HLL.out)
   rw [HPP2.out] at HTP
   have hf1 := HM3'.out.frozen 1
   obtain ⟨d0, d1⟩ := HM3'.out.cells
   rw [HNN.out] at d0
   clear hpre2 hpp2 htn2 hb3 hor2 hat2 hn2'
   go_upto_region 8 with fail
   have HM4 := Lib.hid (HM3'.out.count (c + 1))
   have HC4 : Hid (Chg (fun b => b = bT ∨ b = bS) w0 (World.setCell w3 ⟨bT, 1, none⟩ (.int .i64 ((c + 1 : Nat) : Int)))) := Lib.hid (Chg.tr HC3.out (HM3'.out.count_chg _) (fun b hb => hb.elim (fun e => Or.inl (Or.inl e)) (fun e => Or.inr (by rw [e]; exact HS2.out))))
   rw [show ((c + 1 : Nat) : Int) = (c : Int) + 1 from rfl] at HM4 HC4
   generalize World.setCell _ _ _ = w4 at *
   obtain ⟨hq0, _⟩ := HM4.out.cells
   rw [HNN.out] at hq0
   have HQ0 := Lib.hid hq0
   have HHS := Lib.hid fun W (hW : Below w4.heap.size w4 W) => And.intro (HM4.out.later hW) (Chg.tr HC4.out (Chg.of_below (S := fun b => b = bT ∨ b = bS) hW) (fun b hb => Or.inl hb))
   clear hq0
   refine wp_region_x (fun W : World => W.cell? ⟨bT, 0, none⟩ = some (.slice (some ⟨bS2, 0, none⟩) n2 n2) ∧ Below w4.heap.size w4 W) 9 (by kernel_rfl) ?_
   have hHeld : (fun W : World => W.cell? ⟨bT, 0, none⟩ = some (.slice (some ⟨bS2, 0, none⟩) n2 n2) ∧ Below w4.heap.size w4 W) _ := ⟨(show World.cell? (World.drew w4) _ = _ from HQ0.out), (Below.refl _ _).drew⟩
   refine tkx 0 rfl ?_;(try simp only [PT]);refine tkx 1 rfl ?_;(try simp only [PT]);refine tkx 2 rfl ?_;(try simp only [PT]);refine tkx 3 rfl ?_;(try simp only [PT]);refine tkx 4 rfl ?_;(try simp only [PT])
   refine tkxL 5 rfl (yieldsIf_ld (by rfl) 35 (.tmp 4) rfl (.pointer (some ⟨B, 0, none⟩)) rfl (.agg M) (fun W hW => HLD.out W (HHS.out W hW.2).2)) ?_
   (try simp only [PT])
   refine tkxL 6 rfl (yieldsIf_ld (by rfl) 124 (.tmp 5) rfl (.pointer (some ⟨g1, 0, none⟩)) rfl (.agg MX) (fun W hW => HLE.out W (HHS.out W hW.2).2)) ?_
   (try simp only [PT])
   refine tkxL 7 rfl (yieldsIf_build (by rfl) 164 #[(0, .const (.bool true)), (1, .tmp 49), (2, .tmp 50)] rfl ((encSl vtE).f (some ⟨d, x⟩)).toArray (by first | exact HBL.out | (simp only [List.map_toArray, List.map_cons, List.map_nil]; exact HBL.out))) ?_
   (try simp only [PT])
   refine tkx 8 rfl ?_;(try simp only [PT])
   refine lastx 9 rfl (by kernel_rfl) (by kernel_rfl) (fun K hK => ?_)
   rw [if_pos (by rfl)]
   have HTH := Lib.hid ((HHS.out _ hHeld.2).1.ir.there HPL2.out)
   have HMZ := Lib.hid (te_store (HHS.out _ hHeld.2).1 HPL2.out (some ⟨d, x⟩))
   have HCZ := Lib.hid (Chg.tr HB0.out (Chg.tr (HHS.out _ hHeld.2).2 (te_store_chg (HHS.out _ hHeld.2).1 HPL2.out (some ⟨d, x⟩)) (fun b hb => hb.elim (fun e => Or.inl (Or.inl e)) (fun e => Or.inr (by rw [e]; exact HS2.out)))) (fun b hb => Or.inl hb))
   refine wp_store_mid 164 _ _ rfl bS2 (p2 * 71) ((encSl vtE).f (some ⟨d, x⟩)).toArray rfl rfl (by rw [sl_sz]; exact HTH.out) (by rw [sl_sz]; exact sizeSl) (all_oneCell_toArray ((encSl vtE).one _)) ?_
   clear HTH
   rw [List.toList_toArray]
   generalize World.setCells _ _ _ _ = wZ at *
   first
    | refine hK.out _ _ ?_
    | (go_wp2_with fail; refine hK.out _ _ ?_)
   clear hK K hHeld
   go_wp2
   refine bodyPost_end (results_none rfl _ _ _) rfl ?_
   exact ⟨_, rfl, ⟨bT, bS2, _, _, rfl, rfl, HMZ.out, HTP.out⟩, HCZ.out, fun b hb => hb.elim (fun e => Or.inl (Or.inl e)) (fun e => Or.inr (by rw [e]; exact Nat.le_trans HB0.out.size HS2.out))⟩
  ·have HC : Hid (¬ 3 * A.length < 4 * (c + 1)) := Lib.hid (by rw [HN.out]; have := HM3.out; omega)
   have hci : ((c : Int) == (m : Int)) = false := by simp; omega
   have hf1 := HMD.out.frozen 1
   obtain ⟨d0, d1⟩ := HMD.out.cells
   rw [HN.out] at d0
   have HTP := Lib.hid (HP.out.put_new HPRE.out HTN.out (by rw [HPP.out]; exact HAT.out) HD.out x HC.out)
   rw [HPP.out] at HTP
   clear hc
   go_upto_region 8 with fail
   have HM4 := Lib.hid (HMD.out.count (c + 1))
   have HC4 : Hid (Chg (fun b => b = bT ∨ b = bS) w0 (World.setCell wd ⟨bT, 1, none⟩ (.int .i64 ((c + 1 : Nat) : Int)))) := Lib.hid (Chg.tr HCD.out (HMD.out.count_chg _) (fun b hb => Or.inl hb))
   rw [show ((c + 1 : Nat) : Int) = (c : Int) + 1 from rfl] at HM4 HC4
   generalize World.setCell _ _ _ = w4 at *
   obtain ⟨hq0, _⟩ := HM4.out.cells
   rw [HN.out] at hq0
   have HQ0 := Lib.hid hq0
   have HHS := Lib.hid fun W (hW : Below w4.heap.size w4 W) => And.intro (HM4.out.later hW) (Chg.tr HC4.out (Chg.of_below (S := fun b => b = bT ∨ b = bS) hW) (fun b hb => Or.inl hb))
   clear hq0
   refine wp_region_x (fun W : World => W.cell? ⟨bT, 0, none⟩ = some (.slice (some ⟨bS, 0, none⟩) n n) ∧ Below w4.heap.size w4 W) 9 (by kernel_rfl) ?_
   have hHeld : (fun W : World => W.cell? ⟨bT, 0, none⟩ = some (.slice (some ⟨bS, 0, none⟩) n n) ∧ Below w4.heap.size w4 W) _ := ⟨(show World.cell? (World.drew w4) _ = _ from HQ0.out), (Below.refl _ _).drew⟩
   refine tkx 0 rfl ?_;(try simp only [PT]);refine tkx 1 rfl ?_;(try simp only [PT]);refine tkx 2 rfl ?_;(try simp only [PT]);refine tkx 3 rfl ?_;(try simp only [PT]);refine tkx 4 rfl ?_;(try simp only [PT])
   refine tkxL 5 rfl (yieldsIf_ld (by rfl) 35 (.tmp 4) rfl (.pointer (some ⟨B, 0, none⟩)) rfl (.agg M) (fun W hW => HLD.out W (HHS.out W hW.2).2)) ?_
   (try simp only [PT])
   refine tkxL 6 rfl (yieldsIf_ld (by rfl) 124 (.tmp 5) rfl (.pointer (some ⟨g1, 0, none⟩)) rfl (.agg MX) (fun W hW => HLE.out W (HHS.out W hW.2).2)) ?_
   (try simp only [PT])
   refine tkxL 7 rfl (yieldsIf_build (by rfl) 164 #[(0, .const (.bool true)), (1, .tmp 49), (2, .tmp 50)] rfl ((encSl vtE).f (some ⟨d, x⟩)).toArray (by first | exact HBL.out | (simp only [List.map_toArray, List.map_cons, List.map_nil]; exact HBL.out))) ?_
   (try simp only [PT])
   refine tkx 8 rfl ?_;(try simp only [PT])
   refine lastx 9 rfl (by kernel_rfl) (by kernel_rfl) (fun K hK => ?_)
   rw [if_pos (by rfl)]
   have HTH := Lib.hid ((HHS.out _ hHeld.2).1.ir.there HPL.out)
   have HMZ := Lib.hid (te_store (HHS.out _ hHeld.2).1 HPL.out (some ⟨d, x⟩))
   have HCZ := Lib.hid (Chg.tr HB0.out (Chg.tr (HHS.out _ hHeld.2).2 (te_store_chg (HHS.out _ hHeld.2).1 HPL.out (some ⟨d, x⟩)) (fun b hb => Or.inl hb)) (fun b hb => Or.inl hb))
   refine wp_store_mid 164 _ _ rfl bS (p * 71) ((encSl vtE).f (some ⟨d, x⟩)).toArray rfl rfl (by rw [sl_sz]; exact HTH.out) (by rw [sl_sz]; exact sizeSl) (all_oneCell_toArray ((encSl vtE).one _)) ?_
   clear HTH
   rw [List.toList_toArray]
   generalize World.setCells _ _ _ _ = wZ at *
   first
    | refine hK.out _ _ ?_
    | (go_wp2_with fail; refine hK.out _ _ ?_)
   clear hK K hHeld
   go_wp2
   refine bodyPost_end (results_none rfl _ _ _) rfl ?_
   exact ⟨_, rfl, ⟨bT, bS, _, _, rfl, rfl, HMZ.out, HTP.out⟩, HCZ.out, fun b hb => Or.inl hb⟩
 ·have HTP := Lib.hid (HP.out.put_over HPRE.out HTN.out (by rw [HPP.out]; exact hor) hyd HD.out x)
  rw [HPP.out] at HTP
  clear hor
  go_quiet (fail)
  obtain ⟨wd, hwd⟩ : ∃ W, w1.drewN nq = W := ⟨_, rfl⟩
  have hbd : Below w1.heap.size w1 wd := by rw [← hwd]; exact below_drewN (Below.refl _ _) _
  have HMD := Lib.hid (HM1.out.later hbd)
  have HCD : Hid (Chg (fun b => b = bT ∨ b = bS) w0 wd) := Lib.hid (Chg.tr HC1.out (Chg.of_below (S := fun b => b = bT ∨ b = bS) hbd) (fun b hb => Or.inl hb))
  rw [hwd]
  obtain ⟨hq0, _⟩ := HMD.out.cells
  rw [HN.out] at hq0
  have HQ0 := Lib.hid hq0
  have HHS := Lib.hid fun W (hW : Below wd.heap.size wd W) => And.intro (HMD.out.later hW) (Chg.tr HCD.out (Chg.of_below (S := fun b => b = bT ∨ b = bS) hW) (fun b hb => Or.inl hb))
  clear hbd hwd hq0
  go_upto_region 8 with fail
  refine wp_region_x (fun W : World => W.cell? ⟨bT, 0, none⟩ = some (.slice (some ⟨bS, 0, none⟩) n n) ∧ Below wd.heap.size wd W) 9 (by kernel_rfl) ?_
  have hHeld : (fun W : World => W.cell? ⟨bT, 0, none⟩ = some (.slice (some ⟨bS, 0, none⟩) n n) ∧ Below wd.heap.size wd W) _ := ⟨(show World.cell? (World.drew wd) _ = _ from HQ0.out), (Below.refl _ _).drew⟩
  refine tkx 0 rfl ?_;(try simp only [PT]);refine tkx 1 rfl ?_;(try simp only [PT]);refine tkx 2 rfl ?_;(try simp only [PT]);refine tkx 3 rfl ?_;(try simp only [PT]);refine tkx 4 rfl ?_;(try simp only [PT])
  refine tkxL 5 rfl (yieldsIf_ld (by rfl) 35 (.tmp 4) rfl (.pointer (some ⟨B, 0, none⟩)) rfl (.agg M) (fun W hW => HLD.out W (HHS.out W hW.2).2)) ?_
  (try simp only [PT])
  refine tkxL 6 rfl (yieldsIf_ld (by rfl) 124 (.tmp 5) rfl (.pointer (some ⟨g1, 0, none⟩)) rfl (.agg MX) (fun W hW => HLE.out W (HHS.out W hW.2).2)) ?_
  (try simp only [PT])
  refine tkxL 7 rfl (yieldsIf_build (by rfl) 164 #[(0, .const (.bool true)), (1, .tmp 49), (2, .tmp 50)] rfl ((encSl vtE).f (some ⟨d, x⟩)).toArray (by first | exact HBL.out | (simp only [List.map_toArray, List.map_cons, List.map_nil]; exact HBL.out))) ?_
  (try simp only [PT])
  refine tkx 8 rfl ?_;(try simp only [PT])
  refine lastx 9 rfl (by kernel_rfl) (by kernel_rfl) (fun K hK => ?_)
  rw [if_pos (by rfl)]
  have HTH := Lib.hid ((HHS.out _ hHeld.2).1.ir.there HPL.out)
  have HMZ := Lib.hid (te_store (HHS.out _ hHeld.2).1 HPL.out (some ⟨d, x⟩))
  have HCZ := Lib.hid (Chg.tr HB0.out (Chg.tr (HHS.out _ hHeld.2).2 (te_store_chg (HHS.out _ hHeld.2).1 HPL.out (some ⟨d, x⟩)) (fun b hb => Or.inl hb)) (fun b hb => Or.inl hb))
  refine wp_store_mid 164 _ _ rfl bS (p * 71) ((encSl vtE).f (some ⟨d, x⟩)).toArray rfl rfl (by rw [sl_sz]; exact HTH.out) (by rw [sl_sz]; exact sizeSl) (all_oneCell_toArray ((encSl vtE).one _)) ?_
  clear HTH
  rw [List.toList_toArray]
  generalize World.setCells _ _ _ _ = wZ at *
  first
   | refine hK.out _ _ ?_
   | (go_wp2_with fail; refine hK.out _ _ ?_)
  clear hK K hHeld
  go_wp2
  refine bodyPost_end (results_none rfl _ _ _) rfl ?_
  exact ⟨_, rfl, ⟨bT, bS, _, _, rfl, rfl, HMZ.out, HTP.out⟩, HCZ.out, fun b hb => Or.inl hb⟩
end Tg
namespace Tg
theorem tm_set0 {W : World} {bT bS bN : Nat} {A B : Sg Ex} {c : Nat} (h : Tm vtE W bT bS A c) (hB : Ir (encSl vtE) W bN B) (hne : bT ≠ bN) : Tm vtE (W.setCell ⟨bT, 0, none⟩ (.slice (some ⟨bN, 0, none⟩) B.length B.length)) bT bN B c := by
 rw [setCell_eq_setRow W bT 0 _ _ _ _ h.hd]
 exact ⟨setRow_heap W bT _ _ _ _ h.hd, hB.keep (setRow_other W bT bN _ (fun e => hne e.symm)), hne⟩
theorem tm_set0_chg {W : World} {bT bS : Nat} {A : Sg Ex} {c : Nat} (h : Tm vtE W bT bS A c) (v : Value) : Chg (fun b => b = bT) W (W.setCell ⟨bT, 0, none⟩ v) ∧ ∀ k, k ≠ bT → (W.setCell ⟨bT, 0, none⟩ v).heap[k]? = W.heap[k]? := by
 rw [setCell_eq_setRow W bT 0 _ _ _ _ h.hd]
 exact ⟨⟨setRow_os _ _ _, setRow_tape _ _ _, setRow_output _ _ _, by rw [setRow_size]; exact Nat.le_refl _, fun k _ hk => setRow_other W bT k _ hk⟩, fun k hk => setRow_other W bT k _ hk⟩
/-- amid the loop: the old row, the new one -/
structure GrI (w W : World) (bT bS bN : Nat) (A : Sg Ex) (c k : Nat) (B : Sg Ex) : Prop where
 tm : Tm vtE W bT bN B c
 old : Ir (encSl vtE) W bS A
 nb : w.heap.size ≤ bN
 ne : bN ≠ bS
 ch : Chg (fun b => b = bT) w W
 iv : Inv B
 pm : (cont B).Perm (cont (A.take k))
 ln : B.length = 2 * A.length
theorem GrI.later {w W V : World} {bT bS bN : Nat} {A : Sg Ex} {c k : Nat} {B : Sg Ex} (h : GrI w W bT bS bN A c k B) (hb : Below W.heap.size W V) : GrI w V bT bS bN A c k B :=
 ⟨h.tm.later hb, h.old.later hb, h.nb, h.ne, Chg.tr h.ch (Chg.of_below (S := fun b => b = bT) hb) (fun b e => Or.inl e), h.iv, h.pm, h.ln⟩
theorem GrI.put {w W : World} {bT bS bN : Nat} {A : Sg Ex} {c k t : Nat} {B : Sg Ex} {x : Pg Ex} (h : GrI w W bT bS bN A c k B) (hu : Uniq (cont A)) (hx : atS A k = some x) (hp : Pre B x.dg t) (ht : t < B.length) (hn : atS B (posN B x.dg t) = none) :
 GrI w (W.setCells bN (posN B x.dg t * 71) ((encSl vtE).f (some x))) bT bS bN A c (k + 1) (B.set (posN B x.dg t) (some x)) := by
 obtain ⟨g1, g2⟩ := grow_step hu hx h.iv h.pm hp ht hn
 have hpl : posN B x.dg t < B.length := posN_lt (by omega) _ _
 have hc := te_store_chg h.tm hpl (some x)
 refine ⟨te_store h.tm hpl (some x), h.old.keep (h.tm.ir.storeOther hpl (some x) bS (fun e => h.ne e.symm)), h.nb, h.ne, Chg.tr h.ch hc (fun b e => e.elim Or.inl (fun e => Or.inr (by rw [e]; exact h.nb))), g1, g2, by rw [List.length_set]; exact h.ln⟩
theorem GrI.skip {w W : World} {bT bS bN : Nat} {A : Sg Ex} {c k : Nat} {B : Sg Ex} (h : GrI w W bT bS bN A c k B) (hk : k < A.length) (hn : atS A k = none) : GrI w W bT bS bN A c (k + 1) B :=
 ⟨h.tm, h.old, h.nb, h.ne, h.ch, h.iv, by rw [grow_skip hk hn]; exact h.pm, h.ln⟩
theorem sl_load {W : World} {b : Nat} {A : Sg Ex} (h : Ir (encSl vtE) W b A) {p : Nat} (hp : p < A.length) : (Instr.loadAt 164 (.pointer (some ⟨b, p * 71, none⟩))).run Tryz.prog W = .ok (.agg ((encSl vtE).f (atS A p)).toArray) W := by
 have h1 := h.range hp
 have e : A.getD p (encSl vtE).d = atS A p := by rw [List.getD_eq_getElem?_getD, atS_get hp]; rfl
 rw [e] at h1
 have h2 := run_loadAt_mid (P := Tryz.prog) W b (p * 71) 164 _ _ h1 Tryz.underlying164 rfl (by rw [(encSl vtE).len]; exact sizeSl)
 exact h2
set_option maxRecDepth 100000 in
set_option maxHeartbeats 4000000 in
theorem grow_any : GrowOk := by
 intro w bT bS A c hm hiv huq hdk hfr h8 hn4
 obtain ⟨i0, hi, hz0, hz1, hz2⟩ := info_parts infoSl
 obtain ⟨n, hn⟩ : ∃ n, A.length = n := ⟨_, rfl⟩
 obtain ⟨n2, hn2⟩ : ∃ n2, 2 * n = n2 := ⟨_, rfl⟩
 obtain ⟨c0, c1⟩ := hm.cells
 have HM := Lib.hid hm
 have HU := Lib.hid huq
 have HDK := Lib.hid hdk
 have HFR := Lib.hid hfr
 have HN := Lib.hid hn
 have HN2 := Lib.hid hn2
 rw [hn] at c0 h8 hn4
 have hwa : IntKind.i64.wrap (2 * (n : Int)) = (n2 : Int) := by rw [IntKind.wrap_i64]; omega
 have hb48 : i0.bytes * n2 ≤ 281474976710656 := by rw [hz2]; omega
 have hml : n2 ≤ maxLen := by unfold maxLen; omega
 have hf0 : ∀ W, Below w.heap.size w W → W.frozen? ⟨bT, 0, none⟩ = false := fun W hW => (HM.out.later hW).frozen 0
 have HF0 := Lib.hid hf0
 obtain ⟨bN, hbN⟩ : ∃ x, w.heap.size = x := ⟨_, rfl⟩
 have HBN := Lib.hid hbN
 have h28 : 0 < n2 := by omega
 clear hm hiv huq hdk hfr hn hf0
 go_enter Tryz.func133, Tryz.ntmps133
 go_wp2_with (at_make; refine wpList_make_full _ rfl _ _ 155 rfl w.heap.size (encSl vtE).t i0 (.agg ((encSl vtE).f none).toArray) 71 Tryz.underlying155 hi hz0 hz1 _ _ _ _ n2 rfl rfl rfl rfl hb48 hml (Nat.le_refl _) ?_; intro w1 hrow1 hg1; have HR1 : Hid (Ir (encSl vtE) w1 w.heap.size (List.replicate n2 none)) := Lib.hid (Ir.made (base := w.heap.size) h28 hrow1); have HB1 : Hid (Below w.heap.size w w1) := Lib.hid (below_none hg1); obtain ⟨q0, q1⟩ := (HM.out.later HB1.out).cells; have qf0 := HF0.out w1 HB1.out; clear hrow1)
 have HG0 : Hid (GrI w (w1.setCell ⟨bT, 0, none⟩ (.slice (some ⟨bN, 0, none⟩) n2 n2)) bT bS bN A c 0 (List.replicate n2 none)) := Lib.hid (by
  have hm1 := HM.out.later HB1.out
  have hl1 := HM.out.lt
  have hl2 := HM.out.ir.lt
  have hr1 : Ir (encSl vtE) w1 bN (List.replicate n2 none) := by rw [← HBN.out]; exact HR1.out
  have h1 := tm_set0 hm1 hr1 (by rw [HBN.out] at hl1; omega)
  rw [List.length_replicate] at h1
  obtain ⟨h2, h3⟩ := tm_set0_chg hm1 (.slice (some ⟨bN, 0, none⟩) n2 n2)
  refine ⟨h1, hm1.ir.keep (h3 _ (fun e => hm1.ne e.symm)), by rw [HBN.out]; exact Nat.le_refl _, by rw [HBN.out] at hl2; omega, Chg.tr (Chg.of_below (S := fun b => b = bT) HB1.out) h2 (fun b e => Or.inl e), inv_fresh _, by rw [cont_fresh]; exact List.Perm.refl _, by rw [List.length_replicate, HN.out, HN2.out]⟩)
 generalize World.setCell _ _ _ = w2 at *
 clear q0 q1 qf0 c0 c1 hi hz0 hz1 hz2 hb48 HR1
 go_wp2
 go_loopw [20] (fun iv wr => ∃ (k : Nat) (B : Sg Ex), k ≤ n ∧ iv = .int .i64 (k : Int) ∧ Hid (GrI w wr bT bS bN A c k B)) (fun iv _ => n - (intZ iv).toNat)
 case atStart => exact ⟨0, _, by omega, rfl, HG0⟩
 case round =>
  obtain ⟨k, B, hkn, rfl, HI⟩ := hrel
  by_cases hlt : k < n
  ·have hki : (k : Int) < (n : Int) := by omega
   have hk0 : (0 : Int) ≤ (k : Int) := by omega
   have HKA : Hid (k < A.length) := Lib.hid (by rw [HN.out]; exact hlt)
   have HLD := Lib.hid (sl_load HI.out.old HKA.out)
   obtain ⟨z, hz⟩ : ∃ z, atS A k = z := ⟨_, rfl⟩
   have HZ := Lib.hid hz
   rw [hz] at HLD
   obtain ⟨bV, hbV⟩ : ∃ g, wr.heap.size = g := ⟨_, rfl⟩
   have HBV := Lib.hid hbV
   have HYZ : Hid ((wr.alloc (.cells ((encSl vtE).f none).toArray 164)).heap[bV]? = some (.cells ((encSl vtE).f none).toArray 164 (0, 0))) := Lib.hid (by rw [← hbV]; exact heap_alloc_new _ _)
   have HS1 : Hid ((Tryz.prog.info? 164).map (·.size) = some ((encSl vtE).f z).toArray.size) := Lib.hid (by rw [sl_sz]; exact sizeSl)
   have HS2 : Hid (((encSl vtE).f none).toArray.size = ((encSl vtE).f z).toArray.size) := Lib.hid (by rw [sl_sz, sl_sz])
   clear hz
   go_upto_region 5 with (first
    | (refine wpList_ld rfl 164 _ rfl _ rfl _ HLD.out ?_)
    | (refine wpList_store_row rfl 164 _ _ rfl bV _ rfl rfl 164 _ HYZ.out HS1.out HS2.out (all_oneCell_toArray ((encSl vtE).one _)) ?_; generalize hw3 : World.setRow _ _ _ = w3))
   have hrow3 : w3.heap[bV]? = some (.cells ((encSl vtE).f z).toArray 164 (0, 0)) := by rw [← hw3]; exact setRow_heap _ _ _ _ _ _ HYZ.out
   have hb3 : Below wr.heap.size wr w3 := by rw [← hw3]; exact below_setRow8 ((Below.refl _ _).alloc (Nat.le_refl _) _) _ _ (by rw [HBV.out]; exact Nat.le_refl _)
   have HI3 := Lib.hid (HI.out.later hb3)
   have HV : Hid (Ir (encSl vtE) w3 bV [z]) := Lib.hid (by
    unfold Ir
    rw [hrow3]
    show _ = some (Obj.cells ((encSl vtE).f z ++ []).toArray 164 (0, 0))
    rw [List.append_nil])
   clear hw3 hrow3 hb3 HYZ HS1 HS2 HLD HI hbV
   cases z with
   | none =>
     obtain ⟨x0, _⟩ := te_none HV.out (p := 0) (by simp) rfl
     rw [Nat.zero_mul] at x0
     go_wp2
     exact ⟨⟨k + 1, B, by omega, by go_num, Lib.hid (HI3.out.skip HKA.out HZ.out)⟩, by simp [intZ] <;> omega⟩
   | some x =>
     have hdx := HDK.out k x HZ.out
     have HDX := Lib.hid hdx
     obtain ⟨x0, xr, _⟩ := te_some HV.out (p := 0) (x := x) rfl hdx.1
     rw [Nat.zero_mul] at x0 xr
     have hvl := HV.out.lt
     have HL9 : Hid (∀ W, Below w3.heap.size w3 W → (Instr.loadAt 35 (.pointer (some ⟨bV, 1, none⟩))).run Tryz.prog W = .ok (.agg (bcs x.dg)) W) := Lib.hid fun W hW => sl_dig (rngT_later xr hW) hdx.1
     have HL11 : Hid (∀ W, Below w3.heap.size w3 W → (Instr.loadAt 164 (.pointer (some ⟨bV, 0, none⟩))).run Tryz.prog W = .ok (.agg ((encSl vtE).f (some x)).toArray) W) := Lib.hid fun W hW => sl_load (HV.out.later hW) (p := 0) (by simp)
     have HBL : Hid (B.length = n2) := Lib.hid (by rw [HI3.out.ln, HN.out, HN2.out])
     have hcl : (cont B).length ≤ (cont A).length := by rw [HI3.out.pm.length_eq]; exact cont_take_le A k
     have HFI := Lib.hid fun W (hW : Below w3.heap.size w3 W) => find_any x.dg (HI3.out.later hW).tm (fun q y hy => by
      have h1 := HI3.out.pm.mem_iff.1 (mem_cont.2 ⟨q, hy⟩)
      have h2 : y ∈ cont A := by
       rw [← List.take_append_drop k A, cont_append]
       exact List.mem_append_left _ h1
      obtain ⟨q2, hq2⟩ := mem_cont.1 h2
      exact HDK.out q2 y hq2) (by rw [HBL.out]; have := HFR.out; have := HN.out; have := HN2.out; omega) (by rw [HBL.out]; have := HN2.out; omega) hdx
     obtain ⟨M, hM⟩ : ∃ M, bcs x.dg = M := ⟨_, rfl⟩
     rw [hM] at HL9 HFI
     obtain ⟨R, hR⟩ : ∃ R, ((encSl vtE).f (some x)).toArray = R := ⟨_, rfl⟩
     have HR := Lib.hid hR
     have HBE := Lib.hid (Below.refl w3.heap.size w3)
     rw [hR] at HL11
     clear hM hR xr hdx hcl hvl
     go_upto_region 7 with (first
      | (refine wpList_ld rfl 35 _ rfl _ rfl _ (HL9.out _ HBE.out) ?_)
      | (go_at_call 109; refine (HFI.out _ HBE.out).mono ?_; rintro e w5 ⟨t, fb, rfl, htn, hpre, hor, hb35⟩))
     have HI5 := Lib.hid (HI3.out.later hb35)
     obtain ⟨q0, q1⟩ := HI5.out.tm.cells
     rw [HBL.out] at q0
     have hpl : posN B x.dg t < n2 := by rw [← HBL.out]; exact posN_lt (by omega) _ _
     have hat : atS B (posN B x.dg t) = none := by
      rcases hor with ⟨_, e⟩ | ⟨_, y, e, hyd⟩
      ·exact e
      ·exact absurd hyd (grow_no HU.out HZ.out HI3.out.pm e)
     have HTN := Lib.hid htn
     have HPRE := Lib.hid hpre
     have HAT := Lib.hid hat
     obtain ⟨p, hpp⟩ : ∃ p, posN B x.dg t = p := ⟨_, rfl⟩
     have HPP := Lib.hid hpp
     rw [hpp] at hpl
     rw [hpp]
     have hpi : (p : Int) < (n2 : Int) := by omega
     have hp0 : (0 : Int) ≤ (p : Int) := by omega
     have HPL : Hid (p < B.length) := Lib.hid (by rw [HBL.out]; exact hpl)
     have HL12 : Hid (∀ W, Below w5.heap.size w5 W → (Instr.loadAt 164 (.pointer (some ⟨bV, 0, none⟩))).run Tryz.prog W = .ok (.agg R) W) := Lib.hid fun W hW => HL11.out W (below_step hb35 hW)
     have HI5L := Lib.hid fun W (hW : Below w5.heap.size w5 W) => HI5.out.later hW
     have HC0 := Lib.hid q0
     clear htn hpre hat hpp hor hb35 q1 x0
     clear q0
     refine wp_region_x (fun W : World => W.cell? ⟨bT, 0, none⟩ = some (.slice (some ⟨bN, 0, none⟩) n2 n2) ∧ Below w5.heap.size w5 W) 7 (by kernel_rfl) ?_
     have hHeld : (fun W : World => W.cell? ⟨bT, 0, none⟩ = some (.slice (some ⟨bN, 0, none⟩) n2 n2) ∧ Below w5.heap.size w5 W) _ := ⟨(show World.cell? (World.drew w5) _ = _ from HC0.out), (Below.refl _ _).drew⟩
     refine tkx 0 rfl ?_;(try simp only [PT]);refine tkx 1 rfl ?_;(try simp only [PT]);refine tkx 2 rfl ?_;(try simp only [PT]);refine tkx 3 rfl ?_;(try simp only [PT]);refine tkx 4 rfl ?_;(try simp only [PT])
     refine tkxL 5 rfl (yieldsIf_ld (by rfl) 164 (.tmp 4) rfl (.pointer (some ⟨bV, 0, none⟩)) rfl (.agg R) (fun W hW => HL12.out W hW.2)) ?_
     (try simp only [PT])
     refine tkx 6 rfl ?_;(try simp only [PT])
     refine lastx 7 rfl (by kernel_rfl) (by kernel_rfl) (fun K hK => ?_)
     rw [if_pos (by rfl)]
     have HI6 := Lib.hid (HI5L.out _ hHeld.2)
     have HTH := Lib.hid (HI6.out.tm.ir.there HPL.out)
     have HGZ := Lib.hid (HI6.out.put HU.out HZ.out HPRE.out HTN.out HAT.out)
     rw [HPP.out] at HGZ
     refine wp_store_mid 164 _ _ rfl bN (p * 71) R rfl rfl (by rw [← HR.out, sl_sz]; exact HTH.out) (by rw [← HR.out, sl_sz]; exact sizeSl) (by rw [← HR.out]; exact all_oneCell_toArray ((encSl vtE).one _)) ?_
     rw [← HR.out, List.toList_toArray]
     clear HTH HI6
     generalize World.setCells _ _ _ _ = wZ at *
     first
      | refine hK.out _ _ ?_
      | (go_wp2_with fail; refine hK.out _ _ ?_)
     clear hK K hHeld
     go_wp2
     exact ⟨⟨k + 1, _, by omega, by go_num, HGZ⟩, by simp [intZ] <;> omega⟩
  ·obtain rfl : k = n := by omega
   go_wp2
   refine bodyPost_end (results_none rfl _ _ _) rfl ?_
   exact ⟨bN, B, rfl, HI.out.tm, ⟨HI.out.iv, by have h1 := HI.out.pm; rwa [List.take_of_length_le (by rw [HN.out]; exact Nat.le_refl _)] at h1, HI.out.ln⟩, HI.out.ch, HI.out.nb⟩
end Tg
namespace Tg
/-- amid release's loop: the row M as it lies, the hole at h still with what stood there -/
structure ReI (w W : World) (bT bS : Nat) (M : Sg Ex) (c b h k k0 n : Nat) (C : List (Pg Ex)) : Prop where
 tm : Tm vtE W bT bS M c
 ln : M.length = n
 iv : InvH (M.set (ofs M b h) none) b h k k0
 pm : (cont (M.set (ofs M b h) none)).Perm C
 ch : Chg (fun b => b = bT ∨ b = bS) w W
theorem ReI.later {w W V : World} {bT bS : Nat} {M : Sg Ex} {c b h k k0 n : Nat} {C : List (Pg Ex)} (H : ReI w W bT bS M c b h k k0 n C) (hb : Below W.heap.size W V) : ReI w V bT bS M c b h k k0 n C :=
 ⟨H.tm.later hb, H.ln, H.iv, H.pm, Chg.tr H.ch (Chg.of_below (S := fun b => b = bT ∨ b = bS) hb) (fun b e => Or.inl e)⟩
theorem ReI.lt {w W : World} {bT bS : Nat} {M : Sg Ex} {c b h k k0 n : Nat} {C : List (Pg Ex)} (H : ReI w W bT bS M c b h k k0 n C) : h < k ∧ k ≤ k0 ∧ k0 < n := by
 have h1 := H.iv.hk
 have h2 := H.iv.iv.kk
 have h3 := H.iv.iv.lt0
 rw [List.length_set, H.ln] at h3
 exact ⟨h1, h2, h3⟩
theorem ReI.at {w W : World} {bT bS : Nat} {M : Sg Ex} {c b h k k0 n : Nat} {C : List (Pg Ex)} (H : ReI w W bT bS M c b h k k0 n C) : atS (M.set (ofs M b h) none) (ofs M b k) = atS M (ofs M b k) ∧ ofs M b k ≠ ofs M b h ∧ ofs M b h < n := by
 obtain ⟨h1, h2, h3⟩ := H.lt
 have h0 : 0 < M.length := by rw [H.ln]; omega
 have hne : ofs M b k ≠ ofs M b h := fun e => by
  have := ofs_inj (by rw [H.ln]; omega) (by rw [H.ln]; omega) e
  omega
 refine ⟨by rw [atS_set _ (ofs_lt h0 b h), if_neg hne], hne, by rw [← H.ln]; exact ofs_lt h0 b h⟩
/-- behind the loop: the hole emptied -/
theorem ReI.done {w W : World} {bT bS : Nat} {M : Sg Ex} {c b h k k0 n : Nat} {C : List (Pg Ex)} (H : ReI w W bT bS M c b h k k0 n C) (hn : atS M (ofs M b k) = none) : Inv (M.set (ofs M b h) none) := by
 have h1 := H.at.1
 rw [hn] at h1
 have e : ofs (M.set (ofs M b h) none) b k = ofs M b k := ofs_set _ _ _ _ _
 exact InvK.done (k := k) (k0 := k) ⟨Nat.lt_of_le_of_lt H.iv.iv.kk H.iv.iv.lt0, Nat.le_refl _, by rw [e]; exact h1, H.iv.iv.way⟩ rfl
theorem ReI.keep {w W : World} {bT bS : Nat} {M : Sg Ex} {c b h k k0 n u : Nat} {C : List (Pg Ex)} {x : Pg Ex} (H : ReI w W bT bS M c b h k k0 n C) (hx : atS M (ofs M b k) = some x) (hu : u < n) (hp : ofs M b k = posN M x.dg u) (hd : u < k - h) : ReI w W bT bS M c b h (k + 1) k0 n C :=
 ⟨H.tm, H.ln, H.iv.keep (u := u) (x := x) (by rw [ofs_set, H.at.1]; exact hx) (by rw [List.length_set, H.ln]; exact hu) (by rw [ofs_set, posN_set]; exact hp) hd, H.pm, H.ch⟩
theorem set_hole {M : Sg Ex} {p q : Nat} (x : Option (Pg Ex)) (h : p ≠ q) : ((M.set p none).set q none).set p x = (M.set p x).set q none := by
 rw [List.set_comm none none h, List.set_set, List.set_comm none x (fun e => h e.symm)]
theorem ReI.move {w W : World} {bT bS : Nat} {M : Sg Ex} {c b h k k0 n u : Nat} {C : List (Pg Ex)} {x : Pg Ex} (H : ReI w W bT bS M c b h k k0 n C) (hx : atS M (ofs M b k) = some x) (hu : u < n) (hp : ofs M b k = posN M x.dg u) (hd : k - h ≤ u) :
 ReI w (W.setCells bS (ofs M b h * 71) ((encSl vtE).f (some x))) bT bS (M.set (ofs M b h) (some x)) c b k (k + 1) k0 n C := by
 obtain ⟨a1, a2, a3⟩ := H.at
 have hpl : ofs M b h < M.length := by rw [H.ln]; exact a3
 have hkl : ofs M b k < M.length := ofs_lt (by omega) _ _
 have hxx : atS (M.set (ofs M b h) none) (ofs M b k) = some x := by rw [a1]; exact hx
 have h1 := H.iv.move (u := u) (x := x) (by rw [ofs_set]; exact hxx) (by rw [List.length_set, H.ln]; exact hu) (by rw [ofs_set, posN_set]; exact hp) hd
 rw [ofs_set, ofs_set, set_hole _ (fun e => a2 e.symm)] at h1
 have h2 : (cont ((M.set (ofs M b h) (some x)).set (ofs M b k) none)).Perm C := by
  rw [← set_hole _ (fun e => a2 e.symm)]
  exact (cont_move hxx (by rw [List.length_set]; exact hpl) (by
   rw [atS_set _ (by rw [List.length_set]; exact hkl), if_neg (fun e => a2 e.symm), atS_set _ hpl, if_pos rfl])).trans H.pm
 refine ⟨te_store H.tm hpl (some x), by rw [List.length_set]; exact H.ln, by rw [ofs_set]; exact h1, by rw [ofs_set]; exact h2, Chg.tr H.ch (te_store_chg H.tm hpl (some x)) (fun b e => Or.inl e)⟩
theorem ReI.start {w W : World} {bT bS : Nat} {M : Sg Ex} {c b n : Nat} {y : Pg Ex} (h : Tm vtE W bT bS M c) (hc : Chg (fun b => b = bT ∨ b = bS) w W) (hn : M.length = n) (hI : Inv M) (hb : atS M b = some y) (hf : (cont M).length < M.length) : ∃ k0, ReI w W bT bS M c b 0 1 k0 n (cont (M.set b none)) := by
 obtain ⟨k0, hk0⟩ := InvK.start hI hb hf
 have hbl := atS_lt hb
 exact ⟨k0, h, hn, by rw [ofs_zero hbl]; exact InvH.start hbl hk0, by rw [ofs_zero hbl], hc⟩
/-- what release leaves -/
def RelQ (w : World) (bT bS : Nat) (M : Sg Ex) (c b : Nat) (e : Ending) (w' : World) : Prop :=
 ∃ A, e = .returned (.tuple #[]) ∧ Tm vtE w' bT bS A c ∧ Inv A ∧ A.length = M.length ∧ (cont A).Perm (cont (M.set b none)) ∧ Chg (fun b => b = bT ∨ b = bS) w w'
set_option maxRecDepth 100000 in
set_option maxHeartbeats 4000000 in
theorem release_any {w : World} {bT bS : Nat} {M : Sg Ex} {c b : Nat} {y : Pg Ex} (hm : Tm vtE w bT bS M c) (hiv : Inv M) (hb : atS M b = some y) (hdk : ∀ z ∈ cont M, dok z.dg) (huq : Uniq (cont M)) (hfr : (cont M).length < M.length) (hn4 : M.length ≤ 4194304) :
 Calls Tryz.prog 146 #[.pointer (some ⟨bT, 0, none⟩), .int .i64 (b : Int)] w fun e w' => RelQ w bT bS M c b e w' := by
 obtain ⟨n, hn⟩ : ∃ n, M.length = n := ⟨_, rfl⟩
 obtain ⟨k0, hI⟩ := ReI.start hm (Chg.refl (fun b => b = bT ∨ b = bS) w) hn hiv hb hfr
 have HI0 := Lib.hid hI
 have HC : Hid (∀ z ∈ cont (M.set b none), dok z.dg) := Lib.hid fun z hz => by
  have h1 := (cont_at hb).mem_iff (a := z)
  exact hdk z (h1.2 (List.mem_cons_of_mem _ hz))
 have hbl : b < n := by rw [← hn]; exact atS_lt hb
 have hbi : (b : Int) < (n : Int) := by omega
 have hb0 : (0 : Int) ≤ (b : Int) := by omega
 have HBE := Lib.hid (Below.refl w.heap.size w)
 have HN := Lib.hid hn
 have hne := next_any b hm (by rw [hn]; exact hbl) hn4
 rw [hn] at hne hn4
 have HNE := Lib.hid hne
 obtain ⟨C, hCC⟩ : ∃ C, cont (M.set b none) = C := ⟨_, rfl⟩
 have HCC := Lib.hid hCC
 rw [hCC] at HI0 HC
 have HB0 : Hid (ofs M b 0 = b) := Lib.hid (ofs_zero (by rw [hn]; exact hbl))
 have HB1 : Hid (ofs M b 1 = (b + 1) % n) := Lib.hid (by unfold ofs; rw [hn])
 obtain ⟨R0, hR0⟩ : ∃ R, ((encSl vtE).f none).toArray = R := ⟨_, rfl⟩
 have HR0 := Lib.hid hR0
 have HBU : Hid (Tryz.prog.built 164 [] = some R0) := Lib.hid (by rw [← hR0]; kernel_rfl)
 have HSZ0 : Hid ((Tryz.prog.info? 164).map (·.size) = some R0.size) := Lib.hid (by rw [← hR0, sl_sz]; exact sizeSl)
 have HON0 : Hid (R0.all (·.oneCell') = true) := Lib.hid (by rw [← hR0]; exact all_oneCell_toArray ((encSl vtE).one _))
 have HTL0 : Hid (R0.toList = (encSl vtE).f none) := Lib.hid (by rw [← hR0, List.toList_toArray])
 clear hm hiv hb hdk huq hfr hI hn hne hCC hR0
 go_enter Tryz.func146, Tryz.ntmps146
 go_wp2
 go_step3
 go_wp2
 go_step3
 go_wp2_with (go_at_call 135; refine HNE.out.mono ?_; rintro e w1 ⟨rfl, hb1⟩; have HI1 := Lib.hid (HI0.out.later hb1); clear hb1)
 go_loopw [1, 4] (fun fv iv wr => ∃ (h k : Nat) (Mk : Sg Ex), fv = .int .i64 ((ofs Mk b h : Nat) : Int) ∧ iv = .int .i64 ((ofs Mk b k : Nat) : Int) ∧ Hid (ReI w wr bT bS Mk c b h k k0 n C)) (fun _ iv _ => n - ((intZ iv).toNat + (n - b)) % n)
 case atStart => exact ⟨0, 1, M, by rw [HB0.out], by rw [HB1.out]; rfl, HI1⟩
 case round =>
  obtain ⟨h, k, Mk, rfl, rfl, HI⟩ := hrel
  have HLN : Hid (Mk.length = n) := Lib.hid HI.out.ln
  obtain ⟨hhk, hkk, hkn⟩ := HI.out.lt
  have hql : ofs Mk b k < n := by rw [← HLN.out]; exact ofs_lt (by rw [HLN.out]; omega) _ _
  have hgl : ofs Mk b h < n := HI.out.at.2.2
  have HMS : Hid ((ofs Mk b k + (n - b)) % n = k) := Lib.hid (by
   have h1 := dist_ofs (A := Mk) (b := b) (h := 0) (k := k) (by rw [HLN.out]; omega) (Nat.zero_le _)
   rw [ofs_zero (by rw [HLN.out]; omega), HLN.out, Nat.sub_zero] at h1
   exact h1.symm)
  have HDH : Hid ((ofs Mk b k + (n - ofs Mk b h)) % n = k - h) := Lib.hid (by
   have h1 := dist_ofs (A := Mk) (b := b) (h := h) (k := k) (by rw [HLN.out]; omega) (by omega)
   rw [HLN.out] at h1
   exact h1.symm)
  have HNX : Hid (ofs Mk b (k + 1) = (ofs Mk b k + 1) % n) := Lib.hid (by rw [ofs_succ, HLN.out])
  obtain ⟨q, hq⟩ : ∃ q, ofs Mk b k = q := ⟨_, rfl⟩
  obtain ⟨g, hg⟩ : ∃ g, ofs Mk b h = g := ⟨_, rfl⟩
  have HQ := Lib.hid hq
  have HG := Lib.hid hg
  rw [hq] at hql HMS HNX HDH
  rw [hg] at hgl HDH
  rw [hq, hg]
  have HQL : Hid (q < Mk.length) := Lib.hid (by rw [HLN.out]; exact hql)
  have HGL : Hid (g < Mk.length) := Lib.hid (by rw [HLN.out]; exact hgl)
  have hqi : (q : Int) < (n : Int) := by omega
  have hq0 : (0 : Int) ≤ (q : Int) := by omega
  have hgi : (g : Int) < (n : Int) := by omega
  have hg0 : (0 : Int) ≤ (g : Int) := by omega
  obtain ⟨s0, s1⟩ := HI.out.tm.cells
  rw [HLN.out] at s0
  have HKK : Hid (h < k ∧ k ≤ k0 ∧ k0 < n) := Lib.hid ⟨hhk, hkk, hkn⟩
  clear hq hg s1 hhk hkk hkn
  cases hat : atS Mk q with
  | none =>
    obtain ⟨x0, _⟩ := te_none HI.out.tm.ir HQL.out hat
    have HIV : Hid (Inv (Mk.set g none)) := Lib.hid (by
     have h1 := HI.out.done (by rw [HQ.out]; exact hat)
     rw [HG.out] at h1
     exact h1)
    have HPM : Hid ((cont (Mk.set g none)).Perm C) := Lib.hid (by
     have h1 := HI.out.pm
     rw [HG.out] at h1
     exact h1)
    have HT0 : Hid (wr.there bS (g * 71) R0.size) := Lib.hid (by rw [← HR0.out, sl_sz]; exact HI.out.tm.ir.there HGL.out)
    have HST := Lib.hid (te_store HI.out.tm HGL.out none)
    have HSC := Lib.hid (Chg.tr HI.out.ch (te_store_chg HI.out.tm HGL.out none) (fun b hb => Or.inl hb))
    clear hat
    go_wp2_with (first
     | (refine wpList_build_is rfl 164 _ rfl R0 ?_ ?_; focus (first | (simp only [List.map_toArray, List.map_nil]; exact HBU.out) | (simp only [Array.map_empty]; exact HBU.out) | (simp; exact HBU.out)))
     | (refine wpList_store_mid rfl 164 _ _ rfl bS (g * 71) R0 rfl rfl HT0.out HSZ0.out HON0.out ?_; rw [HTL0.out]; generalize World.setCells _ _ _ _ = w5 at *))
    refine bodyPost_end (results_none rfl _ _ _) rfl ?_
    exact ⟨_, rfl, HST.out, HIV.out, by rw [List.length_set, HLN.out, HN.out], by rw [HCC.out]; exact HPM.out, HSC.out⟩
  | some x =>
    have HX := Lib.hid hat
    have HXD : Hid (dok x.dg) := Lib.hid (HC.out x (HI.out.pm.mem_iff.1 (mem_cont.2 ⟨ofs Mk b k, by rw [HI.out.at.1, HQ.out]; exact hat⟩)))
    obtain ⟨x0, xr, _⟩ := te_some HI.out.tm.ir hat HXD.out.1
    have HL9 : Hid (∀ W, Below wr.heap.size wr W → (Instr.loadAt 35 (.pointer (some ⟨bS, q * 71 + 1, none⟩))).run Tryz.prog W = .ok (.agg (bcs x.dg)) W) := Lib.hid fun W hW => sl_dig (rngT_later xr hW) HXD.out.1
    obtain ⟨u, hu1, hu2⟩ := posN_all (A := Mk) x.dg HQL.out
    have HU1 : Hid (u < n) := Lib.hid (by rw [← HLN.out]; exact hu1)
    have HU2 := Lib.hid hu2
    have hud := dist_own (A := Mk) (d := x.dg) (u := u) (p := q) hu1 hu2.symm
    rw [HLN.out] at hud
    have hml : hmN x.dg % n < n := Nat.mod_lt _ (by omega)
    have HOW := Lib.hid fun W (hW : Below wr.heap.size wr W) => own_any x.dg (HI.out.tm.later hW) HXD.out (by rw [HLN.out]; omega) (by rw [HLN.out]; exact hn4)
    rw [HLN.out] at HOW
    obtain ⟨m, hm⟩ : ∃ m, hmN x.dg % n = m := ⟨_, rfl⟩
    rw [hm] at HOW hml hud
    have HUD := Lib.hid hud
    have hmi : (m : Int) < (n : Int) := by omega
    have hm0 : (0 : Int) ≤ (m : Int) := by omega
    have HS1 : Hid (∀ W, Below wr.heap.size wr W → Calls Tryz.prog 166 #[.pointer (some ⟨bT, 0, none⟩), .int .i64 (m : Int), .int .i64 (q : Int)] W fun e w' => e = .returned (.int .i64 (u : Int)) ∧ Below W.heap.size W w') := Lib.hid fun W hW => by
     have h1 := steps_any m q (HI.out.tm.later hW) (by rw [HLN.out]; exact hml) (by rw [HLN.out]; exact hql) (by rw [HLN.out]; exact hn4)
     rw [HLN.out, ← HUD.out] at h1
     exact h1
    obtain ⟨kh, hkh⟩ : ∃ x, k - h = x := ⟨_, rfl⟩
    have HKH := Lib.hid hkh
    have HS2 : Hid (∀ W, Below wr.heap.size wr W → Calls Tryz.prog 166 #[.pointer (some ⟨bT, 0, none⟩), .int .i64 (g : Int), .int .i64 (q : Int)] W fun e w' => e = .returned (.int .i64 (kh : Int)) ∧ Below W.heap.size W w') := Lib.hid fun W hW => by
     have h1 := steps_any g q (HI.out.tm.later hW) (by rw [HLN.out]; exact hgl) (by rw [HLN.out]; exact hql) (by rw [HLN.out]; exact hn4)
     rw [HLN.out, HDH.out, hkh] at h1
     exact h1
    have HBR := Lib.hid (Below.refl wr.heap.size wr)
    obtain ⟨MX, hMX⟩ : ∃ M, bcs x.dg = M := ⟨_, rfl⟩
    rw [hMX] at HL9 HOW
    clear hat xr hu1 hu2 hud hm hMX hkh
    have hcase : kh ≤ u ∨ u < kh := by omega
    rcases hcase with hmv | hkp
    ·have hge : (kh : Int) ≤ (u : Int) := by omega
     have hgd : decide ((u : Int) ≥ (kh : Int)) = true := by simpa using hge
     have HMV : Hid (k - h ≤ u) := Lib.hid (by rw [HKH.out]; exact hmv)
     clear hmv
     go_upto_region 5 with (first
      | (refine wpList_ld rfl 35 _ rfl _ rfl _ (HL9.out _ HBR.out) ?_)
      | (go_at_call 134; refine (HOW.out _ HBR.out).mono ?_; rintro e w2 ⟨rfl, hb2⟩; have HB2 := Lib.hid hb2; clear hb2)
      | (go_at_call 166; (fail_if_success (have hh := HB3.out)); refine (HS1.out _ HB2.out).mono ?_; rintro e w3 ⟨rfl, hb3⟩; have HB3 := Lib.hid (below_step HB2.out hb3); clear hb3)
      | (go_at_call 166; refine (HS2.out _ HB3.out).mono ?_; rintro e w4 ⟨rfl, hb4⟩; have HB4 := Lib.hid (below_step HB3.out hb4); clear hb4))
     have HI4 := Lib.hid (HI.out.later HB4.out)
     obtain ⟨z0, _⟩ := HI4.out.tm.cells
     rw [HLN.out] at z0
     have HL5 : Hid (∀ W, Below w4.heap.size w4 W → (Instr.loadAt 164 (.pointer (some ⟨bS, q * 71, none⟩))).run Tryz.prog W = .ok (.agg ((encSl vtE).f (some x)).toArray) W) := Lib.hid fun W hW => by
      have h1 := sl_load (HI4.out.tm.later hW).ir HQL.out
      rw [HX.out] at h1
      exact h1
     obtain ⟨R, hR⟩ : ∃ R, ((encSl vtE).f (some x)).toArray = R := ⟨_, rfl⟩
     have HR := Lib.hid hR
     rw [hR] at HL5
     have HC0 := Lib.hid z0
     have HI4L := Lib.hid fun W (hW : Below w4.heap.size w4 W) => HI4.out.later hW
     clear hR z0 s0 x0
     refine wp_region_x (fun W : World => W.cell? ⟨bT, 0, none⟩ = some (.slice (some ⟨bS, 0, none⟩) n n) ∧ Below w4.heap.size w4 W) 9 (by kernel_rfl) ?_
     have hHeld : (fun W : World => W.cell? ⟨bT, 0, none⟩ = some (.slice (some ⟨bS, 0, none⟩) n n) ∧ Below w4.heap.size w4 W) _ := ⟨(show World.cell? (World.drew w4) _ = _ from HC0.out), (Below.refl _ _).drew⟩
     refine tkx 0 rfl ?_;(try simp only [PT]);refine tkx 1 rfl ?_;(try simp only [PT]);refine tkx 2 rfl ?_;(try simp only [PT]);refine tkx 3 rfl ?_;(try simp only [PT]);refine tkx 4 rfl ?_;(try simp only [PT]);refine tkx 5 rfl ?_;(try simp only [PT]);refine tkx 6 rfl ?_;(try simp only [PT])
     refine tkxL 7 rfl (yieldsIf_ld (by rfl) 164 (.tmp 45) rfl (.pointer (some ⟨bS, q * 71, none⟩)) rfl (.agg R) (fun W hW => HL5.out W hW.2)) ?_
     (try simp only [PT])
     refine tkx 8 rfl ?_;(try simp only [PT])
     refine lastx 9 rfl (by kernel_rfl) (by kernel_rfl) (fun K hK => ?_)
     rw [if_pos (by rfl)]
     have HI5 := Lib.hid (HI4L.out _ hHeld.2)
     have HTH := Lib.hid (HI5.out.tm.ir.there HGL.out)
     have HGZ := Lib.hid (HI5.out.move (by rw [HQ.out]; exact HX.out) HU1.out (by rw [HQ.out]; exact HU2.out.symm) HMV.out)
     rw [HG.out] at HGZ
     refine wp_store_mid 164 _ _ rfl bS (g * 71) R rfl rfl (by rw [← HR.out, sl_sz]; exact HTH.out) (by rw [← HR.out, sl_sz]; exact sizeSl) (by rw [← HR.out]; exact all_oneCell_toArray ((encSl vtE).one _)) ?_
     rw [← HR.out, List.toList_toArray]
     clear HTH HI5
     generalize World.setCells _ _ _ _ = wZ at *
     first
      | refine hK.out _ _ ?_
      | (go_wp2_with fail; refine hK.out _ _ ?_)
     clear hK K hHeld
     have HMZ2 := Lib.hid HGZ.out.tm
     have HLZ : Hid ((Mk.set g (some x)).length = n) := Lib.hid (by rw [List.length_set]; exact HLN.out)
     have HNZ := Lib.hid fun W (hW : Below wZ.heap.size wZ W) => next_any q (HMZ2.out.later hW) (by rw [HLZ.out]; exact hql) (by rw [HLZ.out]; exact hn4)
     rw [HLZ.out] at HNZ
     have HBZ := Lib.hid (Below.refl wZ.heap.size wZ)
     go_wp2_with (go_at_call 135; refine (HNZ.out _ HBZ.out).mono ?_; rintro e w6 ⟨rfl, hb6⟩; have HI6 := Lib.hid (HGZ.out.later hb6); clear hb6)
     exact ⟨⟨k, k + 1, _, by rw [ofs_set, HQ.out], by rw [ofs_set, HNX.out]; rfl, HI6⟩, by
      have h1 := dist_ofs (A := Mk) (b := b) (h := 0) (k := k + 1) (by have := HKK.out; rw [HLN.out]; exact Nat.lt_of_le_of_lt HI6.out.lt.2.1 this.2.2) (Nat.zero_le _)
      rw [ofs_zero (by rw [HLN.out]; omega), HLN.out, HNX.out, Nat.sub_zero] at h1
      have h2 := HKK.out
      show n - ((((q + 1) % n : Nat) : Int).toNat + (n - b)) % n < n - (((q : Nat) : Int).toNat + (n - b)) % n
      rw [Int.toNat_natCast, Int.toNat_natCast, ← h1, HMS.out]
      omega⟩
    ·have hge : ¬ (kh : Int) ≤ (u : Int) := by omega
     have hgd : decide ((u : Int) ≥ (kh : Int)) = false := by simpa using hge
     have HMV : Hid (u < k - h) := Lib.hid (by rw [HKH.out]; exact hkp)
     have HIK := Lib.hid (HI.out.keep (by rw [HQ.out]; exact HX.out) HU1.out (by rw [HQ.out]; exact HU2.out.symm) HMV.out)
     have HNZ := Lib.hid fun W (hW : Below wr.heap.size wr W) => next_any q (HI.out.tm.later hW) (by rw [HLN.out]; exact hql) (by rw [HLN.out]; exact hn4)
     rw [HLN.out] at HNZ
     clear hkp
     go_wp2_with (first
      | (refine wpList_ld rfl 35 _ rfl _ rfl _ (HL9.out _ HBR.out) ?_)
      | (go_at_call 134; refine (HOW.out _ HBR.out).mono ?_; rintro e w2 ⟨rfl, hb2⟩; have HB2 := Lib.hid hb2; clear hb2)
      | (go_at_call 166; (fail_if_success (have hh := HB3.out)); refine (HS1.out _ HB2.out).mono ?_; rintro e w3 ⟨rfl, hb3⟩; have HB3 := Lib.hid (below_step HB2.out hb3); clear hb3)
      | (go_at_call 166; refine (HS2.out _ HB3.out).mono ?_; rintro e w4 ⟨rfl, hb4⟩; have HB4 := Lib.hid (below_step HB3.out hb4); clear hb4)
      | (go_at_call 135; refine (HNZ.out _ HB4.out).mono ?_; rintro e w6 ⟨rfl, hb6⟩; have HI6 := Lib.hid (HIK.out.later (below_step HB4.out hb6)); clear hb6))
     exact ⟨⟨h, k + 1, Mk, by rw [HG.out], by rw [HNX.out]; rfl, HI6⟩, by
      have h1 := dist_ofs (A := Mk) (b := b) (h := 0) (k := k + 1) (by have := HKK.out; rw [HLN.out]; exact Nat.lt_of_le_of_lt HI6.out.lt.2.1 this.2.2) (Nat.zero_le _)
      rw [ofs_zero (by rw [HLN.out]; omega), HLN.out, HNX.out, Nat.sub_zero] at h1
      have h2 := HKK.out
      show n - ((((q + 1) % n : Nat) : Int).toNat + (n - b)) % n < n - (((q : Nat) : Int).toNat + (n - b)) % n
      rw [Int.toNat_natCast, Int.toNat_natCast, ← h1, HMS.out]
      omega⟩
/-- what Cut leaves -/
def CutQ (w : World) (S : Nat → Prop) (v : Value) (L : List (Pg Ex)) (d : List Int) (s : Int) (e : Ending) (w' : World) : Prop :=
 ∃ S', e = .returned (.bool (getN L d).isSome) ∧ Tb vtE w' S' v (cutN L d) s ∧ Chg S w w' ∧ ∀ b, S' b → S b ∨ w.heap.size ≤ b
theorem cut_pm {A : Sg Ex} {L : List (Pg Ex)} {p : Nat} {y : Pg Ex} {d : List Int} (hpm : L.Perm (cont A)) (huq : Uniq L) (hy : atS A p = some y) (hd : y.dg = d) : (cutN L d).Perm (cont (A.set p none)) := by
 rw [← hd]
 exact (cutN_perm hpm y.dg).trans (cont_cut (uniq_perm hpm huq) hy).symm
theorem TbP.cut {A A' : Sg Ex} {L : List (Pg Ex)} {s : Int} {c c1 : Nat} {d : List Int} {x : Ex} (h : TbP A L s c) (hc : c = c1 + 1) (hg : getN L d = some x) (hi : Inv A') (hl : A'.length = A.length) (hp : (cont A').Perm (cutN L d)) : TbP A' (cutN L d) s c1 := by
 have h1 := cutN_some h.uq hg
 have h2 := h.cnt
 have h3 := h.load
 exact ⟨hi, cutN_uniq h.uq d, hp.symm, by omega, by rw [hl]; omega, by rw [hl]; exact h.n8, by rw [hl]; exact h.dv, by rw [hl]; exact h.n4, by rw [hl]; exact h.sl, fun z hz => h.dk z (cutN_mem.1 hz).1⟩
set_option maxRecDepth 100000 in
set_option maxHeartbeats 4000000 in
theorem cut_any {w : World} {S : Nat → Prop} {v : Value} {L : List (Pg Ex)} {s : Int} (d : List Int) (h : Tb vtE w S v L s) (hd : dok d) :
 Calls Tryz.prog 119 #[v, .agg (bcs d)] w fun e w' => CutQ w S v L d s e w' := by
 obtain ⟨bT, bS, A, c, rfl, rfl, hm, hp⟩ := h
 obtain ⟨w0, hw0⟩ : ∃ W, w.alloc (.cells (bcs d) 35) = W := ⟨_, rfl⟩
 obtain ⟨B, hB⟩ : ∃ g, w.heap.size = g := ⟨_, rfl⟩
 have hb0 : Below B w w0 := by rw [← hw0, ← hB]; exact (Below.refl _ _).alloc (Nat.le_refl _) _
 have hy : Yw w0 B 35 d := by rw [← hw0, ← hB]; exact heap_alloc_new _ _
 have HLD : Hid (∀ W, Below w0.heap.size w0 W → (Instr.loadAt 35 (.pointer (some ⟨B, 0, none⟩))).run Tryz.prog W = .ok (.agg (bcs d)) W) := Lib.hid fun W hW => yw_dig (hy.later hW) hd.1
 have HM0 := Lib.hid (hm.later (by rw [hB]; exact hb0))
 have HB0 : Hid (Chg (fun b => b = bT ∨ b = bS) w w0) := Lib.hid (Chg.of_below (by rw [hB]; exact hb0))
 have HP := Lib.hid hp
 have HD := Lib.hid hd
 have HBE := Lib.hid (Below.refl w0.heap.size w0)
 have HFI := Lib.hid fun W (hW : Below w0.heap.size w0 W) => find_any d (HM0.out.later hW) hp.dka hp.free hp.n4 hd
 have hcn : 4 * c ≤ 3 * A.length := by rw [hp.cnt]; exact hp.load
 have hn4 := hp.n4
 have hn8 := hp.n8
 clear hm hp hd hb0 hy
 obtain ⟨n, hn⟩ : ∃ n, A.length = n := ⟨_, rfl⟩
 have HN := Lib.hid hn
 rw [hn] at hn4 hn8 hcn
 generalize hM : bcs d = M at *
 clear hM hn
 go_enter Tryz.func119, Tryz.ntmps119
 go_upto_region 4 with (first
  | (refine wpList_ld rfl 35 _ rfl _ rfl _ (HLD.out _ HBE.out) ?_)
  | (go_at_call 109; refine (HFI.out _ HBE.out).mono ?_; rintro e w1 ⟨t, fb, rfl, htn, hpre, hor, hb01⟩))
 have HM1 := Lib.hid (HM0.out.later hb01)
 have HC1 : Hid (Chg (fun b => b = bT ∨ b = bS) w0 w1) := Lib.hid (Chg.of_below hb01)
 have HPRE := Lib.hid hpre
 have hpl : posN A d t < n := by rw [← HN.out]; exact posN_lt (by omega) d t
 obtain ⟨p, hpp⟩ : ∃ p, posN A d t = p := ⟨_, rfl⟩
 have HPP := Lib.hid hpp
 rw [hpp] at hor hpl
 rw [hpp]
 have HPL : Hid (p < A.length) := Lib.hid (by rw [HN.out]; exact hpl)
 have hpi : (p : Int) < (n : Int) := by omega
 have hp0 : (0 : Int) ≤ (p : Int) := by omega
 clear hpre hpp htn hb01
 rcases hor with ⟨rfl, hor⟩ | ⟨rfl, y, hor, hyd⟩
 ·have HGN : Hid (getN L d = none) := Lib.hid (by rw [getN_perm HP.out.pm HP.out.uq]; exact HPRE.out.none HP.out.iv (by rw [HPP.out]; exact hor))
  clear hor
  go_wp2
  go_ret
  refine ⟨_, by rw [HGN.out]; rfl, ⟨bT, bS, A, c, rfl, rfl, HM1.out, ?_⟩, Chg.tr HB0.out HC1.out (fun b hb => Or.inl hb), fun b hb => Or.inl hb⟩
  rw [cutN_none HGN.out]
  exact HP.out
 ·have HGY : Hid (getN L d = some y.v) := Lib.hid (by rw [getN_perm HP.out.pm HP.out.uq, ← hyd]; exact at_get HP.out.uc hor)
  have hc1 := cutN_some HP.out.uq HGY.out
  obtain ⟨c1, hcc⟩ : ∃ c1, c = c1 + 1 := ⟨c - 1, by have := HP.out.cnt; omega⟩
  have HCC := Lib.hid hcc
  have HPM : Hid ((cont (A.set p none)).Perm (cutN L d)) := Lib.hid ((cut_pm HP.out.pm HP.out.uq hor hyd).symm)
  have HRE := Lib.hid (release_any HM1.out HP.out.iv hor (fun z hz => HP.out.dk z (HP.out.pm.mem_iff.2 hz)) HP.out.uc HP.out.free HP.out.n4)
  have hwd : IntKind.i64.wrap ((c : Int) - 1) = (c1 : Int) := by rw [IntKind.wrap_i64]; omega
  clear hor hyd hc1
  go_upto_region 6 with (go_at_call 146; refine HRE.out.mono ?_; rintro e w2 ⟨A2, rfl, ht2, hi2, hl2, hpm2, hc2⟩)
  have HT2 := Lib.hid ht2
  have HTP := Lib.hid (HP.out.cut HCC.out HGY.out hi2 hl2 (hpm2.trans HPM.out))
  obtain ⟨s0, s1⟩ := ht2.cells
  have sf := ht2.frozen 1
  have HC2 := Lib.hid (Chg.tr HC1.out hc2 (fun b hb => Or.inl hb))
  have HM3 := Lib.hid (ht2.count c1)
  have HC3 : Hid (Chg (fun b => b = bT ∨ b = bS) w0 (World.setCell w2 ⟨bT, 1, none⟩ (.int .i64 (c1 : Int)))) := Lib.hid (Chg.tr HC2.out (ht2.count_chg _) (fun b hb => Or.inl hb))
  clear ht2 hi2 hl2 hpm2 hc2 s0 hcc
  go_upto_region 7 with fail
  generalize World.setCell _ _ _ = w3 at *
  go_wp2
  go_ret
  exact ⟨_, by rw [HGY.out]; rfl, ⟨bT, bS, _, c1, rfl, rfl, HM3.out, HTP.out⟩, Chg.tr HB0.out HC3.out (fun b hb => Or.inl hb), fun b hb => Or.inl hb⟩
end Tg
namespace Tg
set_option maxRecDepth 100000 in
set_option maxHeartbeats 2000000 in
theorem row_any (hR : RowOk) {w : World} {S : Nat → Prop} {v : Value} {L : List (Pg Ex)} {s : Int} (h : Tb vtE w S v L s) (hL : L.length ≤ 1048576) : Calls Tryz.prog 85 #[v] w fun e w' =>
 ∃ u, e = .returned u ∧ Od w' w.heap.size u (drow (keysN L)) ∧ Below w.heap.size w w' := by
 obtain ⟨bT, bS, A, c, rfl, rfl, hm, hp⟩ := h
 rw [drow_perm hp.pm (fun x hx => (hp.dk x hx).1)]
 have HRO := Lib.hid hR
 have HLL : Hid ((cont A).length ≤ 1048576) := Lib.hid (by rw [← hp.pm.length_eq]; exact hL)
 have HK : Hid (∀ q x, atS A q = some x → dok x.dg) := Lib.hid hp.dka
 have HM := Lib.hid hm
 obtain ⟨n, hn⟩ : ∃ n, A.length = n := ⟨_, rfl⟩
 have HN := Lib.hid hn
 have hn4 : n ≤ 4194304 := by rw [← hn]; exact hp.n4
 obtain ⟨c0, _⟩ := hm.cells
 rw [hn] at c0
 clear hR hL hm hp hn
 go_enter Tryz.func85, Tryz.ntmps85
 go_wp2
 clear c0
 go_loopw [3, 13] (fun ov j wr => ∃ (k : Nat) (q : Option Addr) (m c' : Nat), k ≤ n ∧ j = .int .i64 (k : Int) ∧ ov = .slice q m c' ∧ Hid (Od wr w.heap.size (.slice q m c') (keysN (cont (A.take k)))) ∧ Hid (Below w.heap.size w wr)) (fun _ j _ => n - (intZ j).toNat)
 case atStart => exact ⟨0, none, 0, 0, by omega, rfl, rfl, Lib.hid (Od.nil _ _), Lib.hid (Below.refl _ _)⟩
 case round =>
  obtain ⟨k, q, m, c', hkn, rfl, rfl, HO, HB⟩ := hrel
  by_cases hlt : k < n
  ·have HMR := Lib.hid (HM.out.later HB.out)
   obtain ⟨c0, _⟩ := HMR.out.cells
   rw [HN.out] at c0
   have HKL : Hid (k < A.length) := Lib.hid (by rw [HN.out]; exact hlt)
   have hki : (k : Int) < (n : Int) := by omega
   have hk0 : (0 : Int) ≤ (k : Int) := by omega
   have HTS := Lib.hid (cont_take_succ HKL.out)
   cases hat : atS A k with
   | none =>
     obtain ⟨x0, _⟩ := te_none HMR.out.ir HKL.out hat
     rw [hat] at HTS
     have HO1 : Hid (Od wr w.heap.size (.slice q m c') (keysN (cont (A.take (k + 1))))) := Lib.hid (by rw [HTS.out]; simp only [List.append_nil]; exact HO.out)
     clear hat
     go_wp2
     exact ⟨⟨k + 1, _, _, _, by omega, by go_num, rfl, HO1, HB⟩, by simp [intZ] <;> omega⟩
   | some x =>
     have HDK := Lib.hid (HK.out k x hat)
     obtain ⟨x0, xr, _⟩ := te_some HMR.out.ir hat HDK.out.1
     have HL1 : Hid (∀ W, Below wr.heap.size wr W → (Instr.loadAt 35 (.pointer (some ⟨bS, k * 71 + 1, none⟩))).run Tryz.prog W = .ok (.agg (bcs x.dg)) W) := Lib.hid fun W hW => sl_dig (rngT_later xr hW) HDK.out.1
     rw [hat] at HTS
     have HT : Hid (keysN (cont (A.take (k + 1))) = keysN (cont (A.take k)) ++ [x.dg]) := Lib.hid (by rw [HTS.out]; unfold keysN; rw [List.map_append]; rfl)
     have HLK : Hid ((keysN (cont (A.take k))).length ≤ 1048576) := Lib.hid (by unfold keysN; rw [List.length_map]; have := cont_take_le A k; have := HLL.out; omega)
     have HBR := Lib.hid (Below.refl wr.heap.size wr)
     obtain ⟨d1, hd1⟩ : ∃ d, x.dg = d := ⟨_, rfl⟩
     rw [hd1] at HL1 HDK HT
     clear hat xr hd1
     go_wp2_with (first
      | (refine wpList_ld rfl 35 _ rfl _ rfl _ (HL1.out _ HBR.out) ?_)
      | (refine wpList_build_dig rfl 74 30 rfl Tryz.underlying74 info24 d1 HDK.out.1 rfl ?_)
      | (refine wpList_append_digs rfl _ _ 74 rfl Tryz.underlying74 info24 w.heap.size _ _ rfl (HO.out.alloc _) _ 1 1 [d1] rfl (Od.one wr w.heap.size d1 HDK.out HB.out.size).ds (fun h => by cases h) (by have := HLK.out; omega) (by have := HB.out.size; rw [World.size_alloc]; omega) ?_; intro v8 w8 ho8 hg8; have HB8 := Lib.hid (below_new_od (HB.out.alloc HB.out.size _) (HO.out.alloc _) hg8 (by have := HB.out.size; rw [World.size_alloc]; omega)); rw [← HT.out] at ho8; obtain ⟨p8, c8, hv8, _⟩ := ho8.open; obtain ⟨mm8, hmm8⟩ : ∃ x, (keysN (cont (A.take (k + 1)))).length = x := ⟨_, rfl⟩; rw [hmm8] at hv8; subst hv8; have HO8 := Lib.hid ho8; clear ho8 hg8 hmm8))
     exact ⟨⟨k + 1, _, _, _, by omega, by go_num, rfl, HO8, HB8⟩, by simp [intZ] <;> omega⟩
  ·obtain rfl : k = n := by omega
   have e1 : A.take k = A := List.take_of_length_le (by rw [HN.out]; exact Nat.le_refl _)
   rw [e1] at HO
   obtain ⟨p', cap, hv, h1, h2, h3, h4, _⟩ := HO.out.open
   simp only [Value.slice.injEq] at hv
   obtain ⟨rfl, rfl, rfl⟩ := hv
   have HRW := Lib.hid (HRO.out q _ c' _ wr h3 h4 h1 h2 (by unfold keysN; rw [List.length_map]; exact HLL.out))
   obtain ⟨m, hm⟩ : ∃ m, (keysN (cont A)).length = m := ⟨_, rfl⟩
   rw [hm] at HRW
   rw [hm]
   clear h1 h2 h3 h4 hm e1
   go_wp2_with fail
   refine HRW.out.mono ?_
   rintro e w8 ⟨v, rfl, ho, hb8⟩
   have HO8 := Lib.hid (ho.mono HB.out.size)
   have HB8 := Lib.hid (below_step HB.out hb8)
   clear ho hb8
   go_wp2
   go_ret
   exact ⟨_, rfl, HO8.out, HB8.out⟩
end Tg
end Go.Proofs.YtpfbfhigelbfcaaGreat

