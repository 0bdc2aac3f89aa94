/- The reference of layer 18: Put, New; Layer 18, the program: a table in memory, plainly (no function of the program is called here); Layer 18, the program: own, next, steps, most, find; Layer 18, the program: find; Layer 18, the program: New, Len, Slots, Get; Layer 18, the program: Put. (gen_sltp.py); Layer 18, the program: double. (gen_sltg.py); Layer 18, the program: release, Cut. (gen_sltc.py);  -/
import Derived.Test.YtfdmpbhgejahaaaSl2
import Derived.Test.YtfdmpbhgejahaaaSl5
import Derived.Test.YtfdmpbhgejahaaaSl6
import Derived.Test.YtfdmpbhgejahaaaSl7
import Derived.Test.YtfdmpbhgejahaaaSl9
import Derived.Test.YtfdmpbhgejahaaaSl10
import Derived.Test.YtfdmpbhgejahaaaSl11
import Derived.Test.YtfdmpbhgejahaaaSl13
import Derived.Deep.Cut
import Derived.Deep.DeepCutAuto
set_option linter.unusedSimpArgs false
set_option linter.unusedVariables false
namespace Go.Proofs.Ytfdmpbhgejahaaa
set_option linter.unusedVariables false
open Go.RowKit Go.Lib

theorem list32S {l : List Int} (h : l.length = 32) : l = [l.getD 0 0, l.getD 1 0, l.getD 2 0, l.getD 3 0, l.getD 4 0, l.getD 5 0, l.getD 6 0, l.getD 7 0, l.getD 8 0, l.getD 9 0, l.getD 10 0, l.getD 11 0, l.getD 12 0, l.getD 13 0, l.getD 14 0, l.getD 15 0, l.getD 16 0, l.getD 17 0, l.getD 18 0, l.getD 19 0, l.getD 20 0, l.getD 21 0, l.getD 22 0, l.getD 23 0, l.getD 24 0, l.getD 25 0, l.getD 26 0, l.getD 27 0, l.getD 28 0, l.getD 29 0, l.getD 30 0, l.getD 31 0] := by
  have e : l = (List.range 32).map (fun i => l.getD i 0) := by
    refine List.ext_getElem (by simp [h]) fun i h1 h2 => ?_
    simp [List.getD_eq_getElem?_getD, List.getElem?_eq_getElem h1]
  exact e
set_option maxRecDepth 100000 in
theorem built_pr32 (v : Int) (a0 a1 a2 a3 a4 a5 a6 a7 a8 a9 a10 a11 a12 a13 a14 a15 a16 a17 a18 a19 a20 a21 a22 a23 a24 a25 a26 a27 a28 a29 a30 a31 : Int) :
    Try.prog.built 42 [(0, .agg (bcs [a0, a1, a2, a3, a4, a5, a6, a7, a8, a9, a10, a11, a12, a13, a14, a15, a16, a17, a18, a19, a20, a21, a22, a23, a24, a25, a26, a27, a28, a29, a30, a31])), (1, .int .i64 v)] = some (mixC [] [a0, a1, a2, a3, a4, a5, a6, a7, a8, a9, a10, a11, a12, a13, a14, a15, a16, a17, a18, a19, a20, a21, a22, a23, a24, a25, a26, a27, a28, a29, a30, a31] [.int .i64 v]) := by kernel_rfl
theorem built_pr (v : Int) (l : List Int) (h : l.length = 32) : Try.prog.built 42 [(0, .agg (bcs l)), (1, .int .i64 v)] = some (mixC [] l (Pr.t ⟨l, v⟩)) := by
  have e := list32S h
  show _ = some (mixC [] l [.int .i64 v])
  rw [e]
  exact built_pr32 v (l.getD 0 0) (l.getD 1 0) (l.getD 2 0) (l.getD 3 0) (l.getD 4 0) (l.getD 5 0) (l.getD 6 0) (l.getD 7 0) (l.getD 8 0) (l.getD 9 0) (l.getD 10 0) (l.getD 11 0) (l.getD 12 0) (l.getD 13 0) (l.getD 14 0) (l.getD 15 0) (l.getD 16 0) (l.getD 17 0) (l.getD 18 0) (l.getD 19 0) (l.getD 20 0) (l.getD 21 0) (l.getD 22 0) (l.getD 23 0) (l.getD 24 0) (l.getD 25 0) (l.getD 26 0) (l.getD 27 0) (l.getD 28 0) (l.getD 29 0) (l.getD 30 0) (l.getD 31 0)
theorem wpList_build_pr {ops : Array Oper} {rest : List Oper} {o : Oper} {a : Act} {w : World} {Q : Exit → Act → World → Prop} (hg : o.guard = none) (t : TypeId) (x : Nat) (ho : o.op = .buildSlice t 1 #[(0, .tmp x)])
    (hu : Try.prog.underlying t = some (.slice 42)) (q : Px) (hx : a.eval (.tmp x) = .agg (mixC [] q.1.dg q.1.t))
    (h : wpList Try.prog ops Q rest (a.put o.dst (.slice (some ⟨w.heap.size, 0, none⟩) 1 1)) (w.alloc (.cells (mixC [] q.1.dg q.1.t) 42))) : wpList Try.prog ops Q (o :: rest) a w :=
  wpList_plain hg fun _ hK => wp_build_pr t x ho hu q hx (hK _ _ h)
/-- a table copied into another block -/
theorem bt_copy {w W : World} {B g : Nat} {v u : Value} {s s0 : Int} {N : List Px} (h : Bt W g u s0) (ho : Gw encPr W B v N) (hb : Below w.heap.size w W) (hg : w.heap.size ≤ g) :
    Bt ((W.setCell ⟨g, 0, none⟩ v).setCell ⟨g, 1, none⟩ (.int .i64 s)) g v s ∧ Gw encPr ((W.setCell ⟨g, 0, none⟩ v).setCell ⟨g, 1, none⟩ (.int .i64 s)) B v N ∧ Below w.heap.size w ((W.setCell ⟨g, 0, none⟩ v).setCell ⟨g, 1, none⟩ (.int .i64 s)) :=
  ⟨(h.set0 v).set1 s, gw_set (gw_set ho (h.not_row ho)) ((h.set0 v).not_row (gw_set ho (h.not_row ho))), (hb.setCell (p := ⟨g, 0, none⟩) hg _).setCell (p := ⟨g, 1, none⟩) hg _⟩
theorem rnew18_any (w : World) : Calls Try.prog 7 #[] w fun e w' => e = .returned (tabV none 0 0 8) ∧ Below w.heap.size w w' := by
  obtain ⟨wA, hA⟩ : ∃ W, w.alloc (.cells #[.slice none 0 0, .int .i64 0] 27) = W := ⟨_, rfl⟩
  have hB : Bt wA w.heap.size (.slice none 0 0) 0 := by rw [← hA]; exact heap_alloc_new _ _
  have HB := Lib.hid hB
  have HBA : Hid (Below w.heap.size w wA) := Lib.hid (by rw [← hA]; exact (Below.refl _ _).alloc (Nat.le_refl _) _)
  obtain ⟨z0, z1, zf0, zf1⟩ := hB.cells
  clear hB
  go_enter Try.func7, Try.ntmps7
  go_wp2_with (first
    | (refine wpList_build_is rfl 27 _ rfl #[.slice none 0 0, .int .i64 8] ?_ ?_; focus kernel_rfl))
  have hr := (HB.out.set0 (.slice none 0 0)).set1 8
  refine bodyPost_ret (hr.res1 rfl _ rfl) rfl ⟨rfl, (HBA.out.setCell (p := ⟨w.heap.size, 0, none⟩) (Nat.le_refl _) _).setCell (p := ⟨w.heap.size, 1, none⟩) (Nat.le_refl _) _⟩
def RpuQ (w : World) (L : List Px) (d : List Int) (v s' : Int) (e : Ending) (w' : World) : Prop :=
  ∃ (q : Option Addr) (m c' : Nat) (M : List Px), e = .returned (tabV q m c' s') ∧ prL M = putN (prL L) d v ∧ Gw encPr w' (w.heap.size + 2) (.slice q m c') M ∧ (∀ x ∈ M, x ∈ L ∨ x.1.dg = d) ∧ Below w.heap.size w w'
set_option maxRecDepth 100000 in
set_option maxHeartbeats 4000000 in
theorem rput18_any (p : Option Addr) (n c : Nat) (s : Int) (L : List Px) (d : List Int) (v : Int) (w : World) (h : Gs encPr w p n L) (hk : ∀ x ∈ L, dok x.1.dg) (hd : dok d) (hn : n ≤ 1048576) (hs : 0 ≤ s ∧ s ≤ 16777216) :
    Calls Try.prog 9 #[tabV p n c s, .agg (bcs d), .int .i64 v] w fun e w' => RpuQ w L d v (slotsN (prL L) s d) e w' := by
  obtain ⟨wA, wB, g, hA, hB, hg, hbx⟩ := box_td w p n c s d hd.1
  have HX := Lib.hid hbx
  have HNL : Hid (L.length = n) := Lib.hid h.len
  have HD := Lib.hid hd
  obtain ⟨wC, hC⟩ : ∃ W, wB.alloc (.cells #[.slice none 0 0, .int .i64 0] 27) = W := ⟨_, rfl⟩
  obtain ⟨g6, hg6⟩ : ∃ x, wB.heap.size = x := ⟨_, rfl⟩
  have hbC : Below wB.heap.size wB wC := by rw [← hC]; exact (Below.refl _ _).alloc (Nat.le_refl _) _
  have hB6 : Bt wC g6 (.slice none 0 0) 0 := by rw [← hC, ← hg6]; exact heap_alloc_new _ _
  have HB6 := Lib.hid hB6
  have HBC := Lib.hid hbC
  have hsC : wC.heap.size = w.heap.size + 3 := by rw [← hC]; simp [hbx.sz]
  have HG : Hid (g6 = w.heap.size + 2 ∧ wC.heap.size = w.heap.size + 3) := Lib.hid ⟨by rw [← hg6]; exact hbx.sz, hsC⟩
  have HLB : Hid (∀ W, Below wB.heap.size wB W → (Instr.loadAt 27 (.pointer (some ⟨w.heap.size, 0, none⟩))).run Try.prog W = .ok (tabV p n c s) W) := Lib.hid fun W hW => by
    have h1 : Bt wB w.heap.size (.slice p n c) s := by
      rw [← hB, ← hA]
      unfold Bt
      rw [heap_alloc_old _ _ (by simp)]
      exact heap_alloc_new _ _
    exact (h1.later hW).load
  have HLG := Lib.hid fun W (hW : Below wB.heap.size wB W) => hbx.ld W hW
  have HGE := Lib.hid fun W (hW : Below w.heap.size w W) => rget18_any p n c s L d W (h.later hW) hk hd hn
  have HCU := Lib.hid fun W (hW : Below w.heap.size w W) => rcut18_any p n c s L d W (h.later hW) hk hd hn
  have HIN : Hid (slotsN (prL L) s d = if (getN (prL L) d).isSome = false ∧ ((cutN (prL L) d).length + 1 : Int) * 4 > s * 3 then s * 2 else s) := Lib.hid rfl
  have HBPR := Lib.hid (built_pr v d hd.1)
  have hcl := cutN_length (prL L) d
  rw [prL_length, h.len] at hcl
  obtain ⟨K, hK⟩ : ∃ K, (cutN (prL L) d).length = K := ⟨_, rfl⟩
  rw [hK] at hcl HIN
  have HK := Lib.hid hK
  obtain ⟨inn, hin⟩ : ∃ b, (getN (prL L) d).isSome = b := ⟨_, rfl⟩
  obtain ⟨gv, hgv⟩ : ∃ b, (getN (prL L) d).getD 0 = b := ⟨_, rfl⟩
  rw [hin] at HIN HGE
  rw [hgv] at HGE
  obtain ⟨s', hs'⟩ : ∃ x, slotsN (prL L) s d = x := ⟨_, rfl⟩
  rw [hs'] at HIN ⊢
  have hw3 : wrap64 (s * 3) = s * 3 := by unfold wrap64; omega
  have hw4 : wrap64 (s * 2) = s * 2 := by unfold wrap64; omega
  unfold tabV at HGE HCU HLB
  unfold tabV
  generalize hM : bcs d = DM at *
  have HM := Lib.hid hM
  have HCL := Lib.hid (Nat.le_trans hcl hn)
  clear h hk hd hbx hM hbC hB6 hsC hn hK hin hgv hs' hcl
  go_enter Try.func9, Try.ntmps9

  go_upto_region 2 with (first
    | (refine wpList_ld rfl 27 _ rfl _ rfl _ (HLB.out _ HBC.out) ?_)
    | (refine wpList_ld rfl 30 _ rfl _ rfl _ (HLG.out _ HBC.out) ?_)
    | (go_at_call 10; refine (HGE.out _ (below_step HX.out.le HBC.out)).mono ?_; rintro e w4 ⟨rfl, hb4⟩; have HBW := Lib.hid (below_step HBC.out hb4); have HB64 := Lib.hid (HB6.out.later hb4); clear hb4))
  go_upto_region 3 with (first
    | (refine wpList_ld rfl 27 _ rfl _ rfl _ (HLB.out _ HBW.out) ?_)
    | (refine wpList_ld rfl 30 _ rfl _ rfl _ (HLG.out _ HBW.out) ?_)
    | (go_at_call 12; refine (HCU.out _ (below_step HX.out.le HBW.out)).mono ?_; rintro e w5 ⟨q, m, c', M, rfl, hM5, ho5, hi5, hb5⟩; have HM5 := Lib.hid hM5; have HO5 := Lib.hid ho5; have HI5 := Lib.hid hi5; have HB5 := Lib.hid hb5; clear hM5 ho5 hi5 hb5))
  obtain ⟨wF, hF⟩ : ∃ W, w5.alloc (.cells #[.slice q m c', .int .i64 s] 27) = W := ⟨_, rfl⟩
  obtain ⟨g9, hg9⟩ : ∃ x, w5.heap.size = x := ⟨_, rfl⟩
  rw [hF, hg9]
  have hB9 : Bt wF g9 (.slice q m c') s := by rw [← hF, ← hg9]; exact heap_alloc_new _ _
  have hbF : Below w5.heap.size w5 wF := by rw [← hF]; exact (Below.refl _ _).alloc (Nat.le_refl _) _
  have HB9 := Lib.hid hB9
  have HOF := Lib.hid ((HO5.out.mono (Nat.le_add_right _ 2)).later hbF)
  have HBWF : Hid (Below wB.heap.size wB wF) := Lib.hid (below_step (below_step HBW.out HB5.out) hbF)
  have HWF : Hid (w4.heap.size ≤ wF.heap.size) := Lib.hid (Nat.le_trans HB5.out.size hbF.size)
  have HB6F := Lib.hid ((HB64.out.later HB5.out).later hbF)
  have HG9W : Hid (wB.heap.size ≤ g9) := Lib.hid (by rw [← hg9]; exact Nat.le_trans HBW.out.size HB5.out.size)
  have hg69 : g6 ≠ g9 := by
    have h1 := HB64.out.lt
    have h2 := HB5.out.size
    omega
  have hw4l : wB.heap.size ≤ w4.heap.size := HBW.out.size
  have HW4 := Lib.hid (And.intro hw4l HB5.out.size)
  have hMK : M.length = K := by
    have h1 := congrArg List.length HM5.out
    rw [prL_length, HK.out] at h1
    exact h1
  have hmK : m = K := by rw [← HO5.out.gs.1, hMK]
  subst hmK
  obtain ⟨y, hy⟩ : ∃ y : Px, y = ⟨⟨d, v⟩, HD.out.1⟩ := ⟨_, rfl⟩
  have HY := Lib.hid hy
  have hyc : mixC [] y.1.dg y.1.t = mixC [] d (Pr.t ⟨d, v⟩) := by rw [hy]
  rw [← hyc] at HBPR
  have HMK := Lib.hid hMK
  obtain ⟨mm, hmm⟩ : ∃ x, m + 1 = x := ⟨_, rfl⟩
  have HMM := Lib.hid hmm
  clear hF hg9 hB9 hbF hw4l hMK hy hyc hmm
  obtain ⟨x0, x1, xf0, xf1⟩ := HB9.out.cells
  go_upto_region 4 with (first
    | (refine wpList_ld rfl 30 _ rfl _ rfl _ (HLG.out _ HBWF.out) ?_)
    | (refine wpList_build_is rfl 42 _ rfl (mixC [] y.1.dg y.1.t) ?_ ?_; focus (simp only [List.map_toArray, List.map_cons, List.map_nil]; exact HBPR.out))
    | (refine wpList_build_pr rfl 25 23 rfl Try.underlying25 y rfl ?_)
    | (refine wpList_append_gen encPr rfl _ _ 25 rfl Try.underlying25 przero 40 infoPr przero_size (by decide) w4.heap.size _ M rfl (HOF.out.alloc _) _ 1 1 [y] rfl (Gs.onePr _ y) (fun h => by cases h) (by have := HCL.out; have := HMK.out; omega) (by have h1 := HWF.out; rw [World.size_alloc]; omega) ?_; intro v8 w8 ho8 hg8; obtain ⟨p8, c8, hv8, _⟩ := ho8.open; rw [List.length_append, List.length_singleton, HMK.out, HMM.out] at hv8; subst hv8; have HO8 := Lib.hid ho8; have hB98 := (HB9.out.later ((Below.refl _ _).alloc (Nat.le_refl _) (.cells (mixC [] y.1.dg y.1.t) 42))).kept hg8 ((HB9.out.later ((Below.refl _ _).alloc (Nat.le_refl _) (.cells (mixC [] y.1.dg y.1.t) 42))).not_row (HOF.out.alloc _)); have HB98 := Lib.hid hB98; have HB68 := Lib.hid ((HB6F.out.later ((Below.refl _ _).alloc (Nat.le_refl _) (.cells (mixC [] y.1.dg y.1.t) 42))).kept hg8 ((HB6F.out.later ((Below.refl _ _).alloc (Nat.le_refl _) (.cells (mixC [] y.1.dg y.1.t) 42))).not_row (HOF.out.alloc _))); have HBW8 := Lib.hid (below_new_gw (HBWF.out.alloc HBWF.out.size (.cells (mixC [] y.1.dg y.1.t) 42)) ((HOF.out.mono HW4.out.1).alloc _) hg8 (by have h1 := HBWF.out.size; rw [World.size_alloc]; omega)); obtain ⟨y0, y1, yf0, yf1⟩ := hB98.cells; clear hB98 ho8 hg8))
  clear x0 x1 xf0 xf1
  have HPUT : Hid (prL (M ++ [y]) = putN (prL L) d v) := Lib.hid (by rw [prL_append, HM5.out, HY.out]; rfl)
  have HMEM : Hid (∀ x ∈ M ++ [y], x ∈ L ∨ x.1.dg = d) := Lib.hid fun x hx => by
    rcases List.mem_append.1 hx with h1 | h1
    · exact Or.inl (HI5.out x h1)
    · rw [List.mem_singleton] at h1
      rw [h1, HY.out]
      exact Or.inr rfl
  have HO9 := Lib.hid (gw_set (j := 0) (u := .slice p8 mm c8) HO8.out (HB98.out.not_row HO8.out))
  have HB99 := Lib.hid (HB98.out.set0 (.slice p8 mm c8))
  have HB69 := Lib.hid (HB68.out.set_other (b' := g9) (j := 0) (u := .slice p8 mm c8) hg69)
  have HG9 : Hid (wB.heap.size ≤ g9) := Lib.hid HG9W.out
  have HBW9 := Lib.hid (HBW8.out.setCell (p := ⟨g9, 0, none⟩) HG9.out (.slice p8 mm c8))
  generalize w8.setCell ⟨g9, 0, none⟩ (.slice p8 mm c8) = w9 at *
  have HMM2 : Hid ((mm : Int) = (m : Int) + 1) := Lib.hid (by rw [← HMM.out]; rfl)
  have hmb : mm ≤ 1048577 := by have := HCL.out; have := HMM.out; omega
  have hw1 : wrap64 ((mm : Int) * 4) = (mm : Int) * 4 := by unfold wrap64; omega
  rw [← HMM2.out] at HIN
  clear HO8 HB98 HB68 HBW8 y0 y1 yf0 yf1 HB6F HB9 HOF HBWF HB64 HBW HB5 HO5 HM5 HI5
  obtain ⟨y0, y1, yf0, yf1⟩ := HB99.out.cells
  cases inn
  · by_cases hgt : s * 3 < (mm : Int) * 4
    · have HIN2 : Hid (s' = s * 2) := Lib.hid (by rw [HIN.out, if_pos ⟨rfl, hgt⟩])
      clear HIN
      go_upto_region 6 with fail
      have HB9X := Lib.hid (HB99.out.set1 (s * 2))
      have HB6X := Lib.hid (HB69.out.set_other (b' := g9) (j := 1) (u := .int .i64 (s * 2)) hg69)
      have HOX := Lib.hid (gw_set (j := 1) (u := .int .i64 (s * 2)) HO9.out (HB99.out.not_row HO9.out))
      have HBX := Lib.hid (below_step HX.out.le (HBW9.out.setCell (p := ⟨g9, 1, none⟩) HG9.out (.int .i64 (s * 2))))
      generalize w9.setCell ⟨g9, 1, none⟩ (.int .i64 (s * 2)) = wX at *
      clear y0 y1 yf0 yf1 HBW9 HO9 HB69 HB99
      have hld := HB9X.out.load
      unfold tabV at hld
      have HLD := Lib.hid hld
      obtain ⟨z0, z1, zf0, zf1⟩ := HB6X.out.cells
      clear hld
      go_wp2_with (first
        | (refine wpList_ld rfl 27 _ rfl _ rfl _ HLD.out ?_))
      obtain ⟨r1, r2, r3⟩ := bt_copy (w := w) (s := (s * 2)) HB6X.out HOX.out HBX.out (by have := HG.out; omega)
      refine bodyPost_ret (v := tabV p8 mm c8 (s * 2)) (r1.res1 rfl _ rfl) rfl ⟨p8, mm, c8, M ++ [y], by rw [HIN2.out], HPUT.out, r2.mono (by have := HX.out.sz; have := HW4.out.1; omega), HMEM.out, r3⟩
    · have HIN2 : Hid (s' = s) := Lib.hid (by rw [HIN.out, if_neg (fun h => hgt h.2)])
      have HB6X := HB69
      have HOX := HO9
      have HBX := Lib.hid (below_step HX.out.le HBW9.out)
      clear HIN
      have hld := HB99.out.load
      unfold tabV at hld
      have HLD := Lib.hid hld
      obtain ⟨z0, z1, zf0, zf1⟩ := HB6X.out.cells
      clear hld
      go_wp2_with (first
        | (refine wpList_ld rfl 27 _ rfl _ rfl _ HLD.out ?_))
      obtain ⟨r1, r2, r3⟩ := bt_copy (w := w) (s := s) HB6X.out HOX.out HBX.out (by have := HG.out; omega)
      refine bodyPost_ret (v := tabV p8 mm c8 s) (r1.res1 rfl _ rfl) rfl ⟨p8, mm, c8, M ++ [y], by rw [HIN2.out], HPUT.out, r2.mono (by have := HX.out.sz; have := HW4.out.1; omega), HMEM.out, r3⟩
  · have HIN2 : Hid (s' = s) := Lib.hid (by rw [HIN.out, if_neg (fun h => by cases h.1)])
    have HB6X := HB69
    have HOX := HO9
    have HBX := Lib.hid (below_step HX.out.le HBW9.out)
    clear HIN
    have hld := HB99.out.load
    unfold tabV at hld
    have HLD := Lib.hid hld
    obtain ⟨z0, z1, zf0, zf1⟩ := HB6X.out.cells
    clear hld
    go_wp2_with (first
      | (refine wpList_ld rfl 27 _ rfl _ rfl _ HLD.out ?_))
    obtain ⟨r1, r2, r3⟩ := bt_copy (w := w) (s := s) HB6X.out HOX.out HBX.out (by have := HG.out; omega)
    refine bodyPost_ret (v := tabV p8 mm c8 s) (r1.res1 rfl _ rfl) rfl ⟨p8, mm, c8, M ++ [y], by rw [HIN2.out], HPUT.out, r2.mono (by have := HX.out.sz; have := HW4.out.1; omega), HMEM.out, r3⟩
end Go.Proofs.Ytfdmpbhgejahaaa

namespace Go.Proofs.Ytfdmpbhgejahaaa
set_option linter.unusedVariables false
open Go.RowKit Go.Lib

theorem bcs_at {d : List Int} (hd : d.length = 32) {i : Nat} (hi : i < 32) : (bcs d)[i]? = some (.int .u8 (d.getD i 0)) := by
  unfold bcs
  rw [List.getElem?_toArray, List.getElem?_map, List.getD_eq_getElem?_getD, List.getElem?_eq_getElem (by omega)]
  rfl
def fix32 (d : List Int) : List Int := (d ++ List.replicate 32 0).take 32
theorem fix32_length (d : List Int) : (fix32 d).length = 32 := by
  unfold fix32
  rw [List.length_take, List.length_append, List.length_replicate]
  omega
theorem fix32_same {d : List Int} (h : d.length = 32) : fix32 d = d := by
  unfold fix32
  rw [List.take_append_of_le_length (by omega), List.take_of_length_le (by omega)]
theorem size34 : (Try.prog.info? 59).map (·.size) = some 34 := by kernel_rfl
def slF : Option Pr → List Value
  | none => mixL [.bool false] dzero [.int .i64 0]
  | some x => mixL [.bool true] (fix32 x.dg) [.int .i64 x.v]
theorem mix_one {a z : List Value} {dg : List Int} (ha : ∀ v ∈ a, v.oneCell' = true) (hz : ∀ v ∈ z, v.oneCell' = true) : ∀ v ∈ mixL a dg z, v.oneCell' = true := fun v hv => by
  unfold mixL at hv
  rcases List.mem_append.1 hv with h | h
  · exact ha v h
  · rcases List.mem_append.1 h with h | h
    · obtain ⟨y, _, rfl⟩ := List.mem_map.1 h; rfl
    · exact hz v h
def encSl : Ec (Option Pr) where
  f := slF
  k := 34
  t := 59
  d := none
  len := fun x => by
    cases x with
    | none => rfl
    | some x => rw [slF, mixL_length, fix32_length]; rfl
  one := fun x => by
    cases x with
    | none => exact mix_one (by simp [Value.oneCell']) (by simp [Value.oneCell'])
    | some x => exact mix_one (by simp [Value.oneCell']) (by simp [Value.oneCell'])
  pos := by decide
/-- a slot's cells -/
theorem sl_none {W : World} {b : Nat} {A : Sl} (h : Ir encSl W b A) {p : Nat} (hp : p < A.length) (hn : atS A p = none) : W.cell? ⟨b, p * 34, none⟩ = some (.bool false) := by
  have h1 := h.range hp
  have e : A.getD p encSl.d = none := by rw [List.getD_eq_getElem?_getD, atS_get hp, hn]; rfl
  rw [e] at h1
  exact h1 0 _ rfl
theorem sl_some {W : World} {b : Nat} {A : Sl} (h : Ir encSl W b A) {p : Nat} {x : Pr} (hx : atS A p = some x) (hd : x.dg.length = 32) :
    W.cell? ⟨b, p * 34, none⟩ = some (.bool true) ∧ W.rangeAt b (p * 34 + 1) (x.dg.map (Value.int .u8)) ∧ W.cell? ⟨b, p * 34 + 33, none⟩ = some (.int .i64 x.v) := by
  have h1 := h.range (atS_lt hx)
  have e : A.getD p encSl.d = some x := by rw [List.getD_eq_getElem?_getD, atS_get (atS_lt hx), hx]; rfl
  rw [e] at h1
  have h2 : W.rangeAt b (p * 34) (mixL [.bool true] x.dg [.int .i64 x.v]) := by
    have e2 : encSl.f (some x) = mixL [.bool true] x.dg [.int .i64 x.v] := by
      show mixL [.bool true] (fix32 x.dg) [.int .i64 x.v] = _
      rw [fix32_same hd]
    rw [e2] at h1
    exact h1
  unfold mixL at h2
  refine ⟨h2 0 _ rfl, fun i v hv => ?_, ?_⟩
  · have hi : i < (x.dg.map (Value.int .u8)).length := (List.getElem?_eq_some_iff.1 hv).1
    rw [show p * 34 + 1 + i = p * 34 + (i + 1) by omega]
    refine h2 (i + 1) v ?_
    rw [List.singleton_append, List.getElem?_cons_succ, List.getElem?_append_left hi]
    exact hv
  · refine h2 33 _ ?_
    rw [List.singleton_append, List.getElem?_cons_succ, List.getElem?_append_right (by rw [List.length_map, hd]; exact Nat.le_refl _), List.length_map, hd]
    rfl
theorem sl_dig {W : World} {b o : Nat} {d : List Int} (h : W.rangeAt b o (d.map (Value.int .u8))) (hd : d.length = 32) : (Instr.loadAt 30 (.pointer (some ⟨b, o, none⟩))).run Try.prog W = .ok (.agg (bcs d)) W := by
  have h1 := run_loadAt_mid W b o 30 _ _ h Try.underlying30 rfl (by rw [List.length_map, hd]; exact size32)
  rw [h1]
  rfl
def intZ (v : Value) : Int := match v with | .int _ x => x | _ => 0
structure Tm (W : World) (bT bS : Nat) (A : Sl) (c : Nat) : Prop where
  hd : W.heap[bT]? = some (.cells #[.slice (some ⟨bS, 0, none⟩) A.length A.length, .int .i64 (c : Int)] 57 (0, 0))
  ir : Ir encSl W bS A
  ne : bT ≠ bS
structure TbP (A : Sl) (L : List Pr) (s : Int) (c : Nat) : Prop where
  iv : Inv A
  uq : Uniq L
  pm : L.Perm (cont A)
  cnt : c = L.length
  load : 4 * L.length ≤ 3 * A.length
  n8 : 8 ≤ A.length
  dv : A.length % 4 = 0
  n4 : A.length ≤ 4194304
  sl : s = (A.length : Int)
  dk : ∀ x ∈ L, dok x.dg
theorem TbP.uc {A : Sl} {L : List Pr} {s : Int} {c : Nat} (h : TbP A L s c) : Uniq (cont A) := uniq_perm h.pm h.uq
theorem TbP.free {A : Sl} {L : List Pr} {s : Int} {c : Nat} (h : TbP A L s c) : (cont A).length < A.length := by
  rw [← h.pm.length_eq]
  have := h.load
  have := h.n8
  omega
theorem TbP.dka {A : Sl} {L : List Pr} {s : Int} {c : Nat} (h : TbP A L s c) : ∀ p x, atS A p = some x → dok x.dg := fun p x hx => h.dk x (h.pm.mem_iff.2 (mem_cont.2 ⟨p, hx⟩))
def Tb (W : World) (S : Nat → Prop) (v : Value) (L : List Pr) (s : Int) : Prop :=
  ∃ bT bS A c, v = .pointer (some ⟨bT, 0, none⟩) ∧ S = (fun b => b = bT ∨ b = bS) ∧ Tm W bT bS A c ∧ TbP A L s c
theorem Tm.keep {W W' : World} {bT bS : Nat} {A : Sl} {c : Nat} (h : Tm W bT bS A c) (h1 : W'.heap[bT]? = W.heap[bT]?) (h2 : W'.heap[bS]? = W.heap[bS]?) : Tm W' bT bS A c := ⟨h1.trans h.hd, h.ir.keep h2, h.ne⟩
theorem Tm.lt {W : World} {bT bS : Nat} {A : Sl} {c : Nat} (h : Tm W bT bS A c) : bT < W.heap.size := (Array.getElem?_eq_some_iff.1 h.hd).1
theorem Tm.later {W W' : World} {bT bS : Nat} {A : Sl} {c : Nat} (h : Tm W bT bS A c) (hb : Below W.heap.size W W') : Tm W' bT bS A c := h.keep (hb.block _ h.lt) (hb.block _ h.ir.lt)
theorem Tm.cells {W : World} {bT bS : Nat} {A : Sl} {c : Nat} (h : Tm W bT bS A c) : W.cell? ⟨bT, 0, none⟩ = some (.slice (some ⟨bS, 0, none⟩) A.length A.length) ∧ W.cell? ⟨bT, 1, none⟩ = some (.int .i64 (c : Int)) :=
  ⟨by rw [cell_of_row W bT 0 _ _ _ h.hd]; rfl, by rw [cell_of_row W bT 1 _ _ _ h.hd]; rfl⟩
theorem tb_keep {w w' : World} {S : Nat → Prop} {v : Value} {L : List Pr} {s : Int} (h : Tb w S v L s) (hk : ∀ b, S b → w'.heap[b]? = w.heap[b]?) : Tb w' S v L s := by
  obtain ⟨bT, bS, A, c, rfl, rfl, hm, hp⟩ := h
  exact ⟨bT, bS, A, c, rfl, rfl, hm.keep (hk _ (Or.inl rfl)) (hk _ (Or.inr rfl)), hp⟩
theorem tb_lt {w : World} {S : Nat → Prop} {v : Value} {L : List Pr} {s : Int} (h : Tb w S v L s) : ∀ b, S b → b < w.heap.size := by
  obtain ⟨bT, bS, A, c, rfl, rfl, hm, hp⟩ := h
  rintro b (rfl | rfl)
  · exact hm.lt
  · exact hm.ir.lt
theorem infoSl : (Try.prog.info? 59).map (fun i => (i.zero, i.size, i.bytes)) = some (some (.agg (encSl.f none).toArray), 34, 48) := by kernel_rfl
theorem tbp_new : TbP (List.replicate 8 none) [] 8 0 := ⟨inv_fresh 8, List.nodup_nil, by rw [cont_fresh], rfl, by simp, by simp, by simp, by simp, by simp, fun x hx => by cases hx⟩
theorem Chg.refl (S : Nat → Prop) (w : World) : Chg S w w := ⟨rfl, rfl, rfl, Nat.le_refl _, fun _ _ _ => rfl⟩
theorem Chg.tr {S S' : Nat → Prop} {w w1 w2 : World} (h1 : Chg S w w1) (h2 : Chg S' w1 w2) (hs : ∀ b, S' b → S b ∨ w.heap.size ≤ b) : Chg S w w2 :=
  ⟨h2.os.trans h1.os, h2.tape.trans h1.tape, h2.output.trans h1.output, Nat.le_trans h1.size h2.size, fun k hk hn => (h2.block k (Nat.lt_of_lt_of_le hk h1.size) fun e => (hs k e).elim hn fun e2 => absurd hk (Nat.not_lt.2 e2)).trans (h1.block k hk hn)⟩
theorem Chg.of_below {S : Nat → Prop} {w w' : World} (h : Below w.heap.size w w') : Chg S w w' := ⟨h.os, h.tape, h.output, h.size, fun k hk _ => h.block k hk⟩
theorem TbP.put_over {A : Sl} {L : List Pr} {s : Int} {c t : Nat} {d : List Int} {y : Pr} (h : TbP A L s c) (hp : Pre A d t) (ht : t < A.length) (hx : atS A (posN A d t) = some y) (hy : y.dg = d) (hd : dok d) (x : Int) :
    TbP (A.set (posN A d t) (some ⟨d, x⟩)) (putN L d x) (slotsN L s d) c := by
  have hpl := atS_lt hx
  have hg : getN L d = some y.v := by rw [getN_perm h.pm h.uq, ← hy]; exact at_get h.uc hx
  have hs : slotsN L s d = s := by unfold slotsN; rw [hg, if_neg (by simp)]
  have hl : (putN L d x).length = L.length := by rw [putN_length, cutN_some h.uq hg]
  exact ⟨h.iv.set hp ht x (fun z hz => by rw [hx] at hz; cases hz; exact hy), putN_uniq h.uq d x, (putN_perm h.pm d x).trans (cont_put hpl h.uc (Or.inr ⟨y, hx, hy⟩) x).symm,
    by rw [hl]; exact h.cnt, by rw [hl, List.length_set]; exact h.load, by rw [List.length_set]; exact h.n8, by rw [List.length_set]; exact h.dv, by rw [List.length_set]; exact h.n4, by rw [hs, List.length_set]; exact h.sl,
    fun z hz => by
      rcases List.mem_append.1 hz with e | e
      · exact h.dk z (cutN_mem.1 e).1
      · rw [List.mem_singleton] at e; subst e; exact hd⟩
theorem putN_dk1 {L : List Pr} {d : List Int} {x : Int} (h : ∀ y ∈ L, dok y.dg) (hd : dok d) : ∀ z ∈ putN L d x, dok z.dg := fun z hz => by
  rcases List.mem_append.1 hz with e | e
  · exact h z (cutN_mem.1 e).1
  · rw [List.mem_singleton] at e; subst e; exact hd
theorem TbP.put_new {A : Sl} {L : List Pr} {s : Int} {c t : Nat} {d : List Int} (h : TbP A L s c) (hp : Pre A d t) (ht : t < A.length) (hn : atS A (posN A d t) = none) (hd : dok d) (x : Int) (hc : ¬ 3 * A.length < 4 * (c + 1)) :
    TbP (A.set (posN A d t) (some ⟨d, x⟩)) (putN L d x) (slotsN L s d) (c + 1) := by
  have hpl : posN A d t < A.length := posN_lt (by omega) d t
  have hg' : getN (cont A) d = none := hp.none h.iv hn
  have hg : getN L d = none := by rw [getN_perm h.pm h.uq]; exact hg'
  have hcl : (cutN L d).length = L.length := by rw [cutN_none hg]
  have h1 := h.sl
  have h2 := h.cnt
  have hs : slotsN L s d = s := by
    unfold slotsN
    rw [hcl, if_neg]
    rintro ⟨_, e⟩
    omega
  have hl : (putN L d x).length = L.length + 1 := by rw [putN_length, hcl]
  exact ⟨h.iv.set hp ht x (fun z hz => by rw [hn] at hz; cases hz), putN_uniq h.uq d x, (putN_perm h.pm d x).trans (cont_put hpl h.uc (Or.inl ⟨hn, hg'⟩) x).symm,
    by rw [hl, h2], by rw [hl, List.length_set]; omega, by rw [List.length_set]; exact h.n8, by rw [List.length_set]; exact h.dv, by rw [List.length_set]; exact h.n4, by rw [hs, List.length_set]; exact h.sl, putN_dk1 h.dk hd⟩
/-- what growing leaves -/
structure GrP (A A2 : Sl) : Prop where
  iv : Inv A2
  pm : (cont A2).Perm (cont A)
  len : A2.length = 2 * A.length
theorem TbP.put_grow {A A2 : Sl} {L : List Pr} {s : Int} {c t : Nat} {d : List Int} (h : TbP A L s c) (hgd : getN (cont A) d = none) (g : GrP A A2) (hp : Pre A2 d t) (ht : t < A2.length) (hn : atS A2 (posN A2 d t) = none) (hd : dok d) (x : Int) (hc : 3 * A.length < 4 * (c + 1)) (hc2 : L.length ≤ 1048576) :
    TbP (A2.set (posN A2 d t) (some ⟨d, x⟩)) (putN L d x) (slotsN L s d) (c + 1) := by
  have hpl : posN A2 d t < A2.length := posN_lt (by omega) d t
  have hpm : L.Perm (cont A2) := h.pm.trans g.pm.symm
  have hu2 : Uniq (cont A2) := uniq_perm hpm h.uq
  have hg' : getN (cont A2) d = none := hp.none g.iv hn
  have hg : getN L d = none := by rw [getN_perm h.pm h.uq]; exact hgd
  have hcl : (cutN L d).length = L.length := by rw [cutN_none hg]
  have h1 := h.sl
  have h2 := h.cnt
  have h3 := h.load
  have h4 := h.n8
  have h5 := g.len
  have hs : slotsN L s d = s * 2 := by
    unfold slotsN
    rw [hcl, hg, if_pos]
    exact ⟨rfl, by omega⟩
  have hl : (putN L d x).length = L.length + 1 := by rw [putN_length, hcl]
  exact ⟨g.iv.set hp ht x (fun z hz => by rw [hn] at hz; cases hz), putN_uniq h.uq d x, (putN_perm hpm d x).trans (cont_put hpl hu2 (Or.inl ⟨hn, hg'⟩) x).symm,
    by rw [hl, h2], by rw [hl, List.length_set]; omega, by rw [List.length_set]; omega, by rw [List.length_set]; have := h.dv; omega, by rw [List.length_set]; omega, by rw [hs, List.length_set]; omega, putN_dk1 h.dk hd⟩
theorem Tm.store {W : World} {bT bS : Nat} {A : Sl} {c : Nat} (h : Tm W bT bS A c) {p : Nat} (hp : p < A.length) (z : Option Pr) : Tm (W.setCells bS (p * 34) (encSl.f z)) bT bS (A.set p z) c := by
  refine ⟨?_, h.ir.store hp z, h.ne⟩
  rw [List.length_set]
  exact (h.ir.storeOther hp z bT h.ne).trans h.hd
theorem Tm.store_chg {W : World} {bT bS : Nat} {A : Sl} {c : Nat} (h : Tm W bT bS A c) {p : Nat} (hp : p < A.length) (z : Option Pr) : Chg (fun b => b = bT ∨ b = bS) W (W.setCells bS (p * 34) (encSl.f z)) := by
  obtain ⟨h1, h2, h3, h4⟩ := h.ir.storeSize hp z
  exact ⟨h2, h3, h4, by rw [show W.setCells bS (p * 34) (encSl.f z) = W.setCells bS (p * encSl.k) (encSl.f z) from rfl, h1]; exact Nat.le_refl _, fun k _ hk => h.ir.storeOther hp z k (fun e => hk (Or.inr e))⟩
theorem Tm.count {W : World} {bT bS : Nat} {A : Sl} {c : Nat} (h : Tm W bT bS A c) (c' : Nat) : Tm (W.setCell ⟨bT, 1, none⟩ (.int .i64 (c' : Int))) bT bS A c' := by
  rw [setCell_eq_setRow W bT 1 _ _ _ _ h.hd]
  exact ⟨setRow_heap W bT _ _ _ _ h.hd, h.ir.keep (setRow_other W bT bS _ (fun e => h.ne e.symm)), h.ne⟩
theorem Tm.count_chg {W : World} {bT bS : Nat} {A : Sl} {c : Nat} (h : Tm W bT bS A c) (v : Value) : Chg (fun b => b = bT ∨ b = bS) W (W.setCell ⟨bT, 1, none⟩ v) := by
  rw [setCell_eq_setRow W bT 1 _ _ _ _ h.hd]
  exact ⟨setRow_os _ _ _, setRow_tape _ _ _, setRow_output _ _ _, by rw [setRow_size]; exact Nat.le_refl _, fun k _ hk => setRow_other W bT k _ (fun e => hk (Or.inl e))⟩
theorem Tm.frozen {W : World} {bT bS : Nat} {A : Sl} {c : Nat} (h : Tm W bT bS A c) (j : Nat) : W.frozen? ⟨bT, j, none⟩ = false := frozen_of_row W bT j _ _ h.hd
set_option maxRecDepth 100000 in
theorem built_sl32 (v : Int) (a0 a1 a2 a3 a4 a5 a6 a7 a8 a9 a10 a11 a12 a13 a14 a15 a16 a17 a18 a19 a20 a21 a22 a23 a24 a25 a26 a27 a28 a29 a30 a31 : Int) :
    Try.prog.built 59 [(0, .bool true), (1, .agg (bcs [a0, a1, a2, a3, a4, a5, a6, a7, a8, a9, a10, a11, a12, a13, a14, a15, a16, a17, a18, a19, a20, a21, a22, a23, a24, a25, a26, a27, a28, a29, a30, a31])), (2, .int .i64 v)] = some (mixL [.bool true] [a0, a1, a2, a3, a4, a5, a6, a7, a8, a9, a10, a11, a12, a13, a14, a15, a16, a17, a18, a19, a20, a21, a22, a23, a24, a25, a26, a27, a28, a29, a30, a31] [.int .i64 v]).toArray := by kernel_rfl
theorem built_sl (v : Int) (l : List Int) (h : l.length = 32) : Try.prog.built 59 [(0, .bool true), (1, .agg (bcs l)), (2, .int .i64 v)] = some (encSl.f (some ⟨l, v⟩)).toArray := by
  have e2 : encSl.f (some ⟨l, v⟩) = mixL [.bool true] l [.int .i64 v] := by
    show mixL [.bool true] (fix32 l) [.int .i64 v] = _
    rw [fix32_same h]
  rw [e2]
  have e := list32S h
  rw [e]
  exact built_sl32 v (l.getD 0 0) (l.getD 1 0) (l.getD 2 0) (l.getD 3 0) (l.getD 4 0) (l.getD 5 0) (l.getD 6 0) (l.getD 7 0) (l.getD 8 0) (l.getD 9 0) (l.getD 10 0) (l.getD 11 0) (l.getD 12 0) (l.getD 13 0) (l.getD 14 0) (l.getD 15 0) (l.getD 16 0) (l.getD 17 0) (l.getD 18 0) (l.getD 19 0) (l.getD 20 0) (l.getD 21 0) (l.getD 22 0) (l.getD 23 0) (l.getD 24 0) (l.getD 25 0) (l.getD 26 0) (l.getD 27 0) (l.getD 28 0) (l.getD 29 0) (l.getD 30 0) (l.getD 31 0)
theorem yieldsIf_build {P : Program} {ops : Array Oper} {S : World → Prop} {o : Oper} {a : Act} (hw : Region.wanted o (yielded ops a.tmps) = true) (t : TypeId) (parts : Array (Nat × Operand)) (ho : o.op = .build t parts) (cells : Array Value)
    (hf : P.built t (parts.map fun (i, x) => (i, a.eval x)).toList = some cells) : YieldsIf P ops S o (.agg cells) a :=
  Or.inl ⟨hw, fun w hS => by unfold execOp; simp only [ho, Sem.run_bind, run_build w t _ cells hf, Result.andThen_ok]; rfl⟩
end Go.Proofs.Ytfdmpbhgejahaaa

namespace Go.Proofs.Ytfdmpbhgejahaaa
set_option linter.unusedVariables false
open Go.RowKit Go.Lib

theorem ofInt_i64 (a : Nat) (ha : a < 18446744073709551616) : (BitVec.ofInt 64 (a : Int)).toNat = a := by
  rw [BitVec.ofInt_natCast, BitVec.toNat_ofNat]; exact Nat.mod_eq_of_lt (by omega)
theorem i64_or_nat (a b : Nat) (ha : a < 4611686018427387904) (hb : b < 4611686018427387904) : bits .or .i64 (a : Int) (b : Int) = ((a ||| b : Nat) : Int) := by
  have hx : a ||| b < 2 ^ 62 := Nat.or_lt_two_pow (by omega) (by omega)
  show IntKind.i64.wrap ((BitVec.ofInt 64 (a : Int) ||| BitVec.ofInt 64 (b : Int)).toNat : Int) = _
  rw [BitVec.toNat_or, ofInt_i64 a (by omega), ofInt_i64 b (by omega), IntKind.wrap_i64]
  omega
theorem own_or {a b : Int} (ha : 0 ≤ a ∧ a < 256) (hb : 0 ≤ b ∧ b < 256) : bits .or .i64 a (b * 256) = a + 256 * b := by
  obtain ⟨x, rfl⟩ := Int.eq_ofNat_of_zero_le ha.1
  obtain ⟨y, rfl⟩ := Int.eq_ofNat_of_zero_le hb.1
  have h1 := i64_or_nat x (y * 256) (by omega) (by omega)
  have e : x ||| y * 256 = x + y * 256 := by
    have := Nat.two_pow_add_eq_or_of_lt (i := 8) (b := x) (by omega) y
    rw [Nat.or_comm, Nat.mul_comm y, show (256 : Nat) = 2 ^ 8 from rfl, ← this, Nat.add_comm]
  rw [e] at h1
  rw [show ((y : Int) * 256) = ((y * 256 : Nat) : Int) by omega, h1]
  omega
theorem home_num {a b : Int} {n : Nat} (ha : 0 ≤ a ∧ a < 256) (hb : 0 ≤ b ∧ b < 256) : (a + 256 * b).tmod (n : Int) = (((a + 256 * b).toNat % n : Nat) : Int) := by
  obtain ⟨m, hm⟩ : ∃ m : Nat, a + 256 * b = (m : Int) := ⟨(a + 256 * b).toNat, by omega⟩
  rw [hm, Int.toNat_natCast]
  rfl
set_option maxRecDepth 100000 in
set_option maxHeartbeats 1000000 in
theorem own_any {w : World} {bT bS : Nat} {A : Sl} {c : Nat} (d : List Int) (h : Tm w bT bS A c) (hd : dok d) (hn : 0 < A.length) (hn2 : A.length ≤ 4194304) :
    Calls Try.prog 36 #[.pointer (some ⟨bT, 0, none⟩), .agg (bcs d)] w fun e w' => e = .returned (.int .i64 ((hmN d % A.length : Nat) : Int)) ∧ Below w.heap.size w w' := by
  obtain ⟨w0, hw0⟩ : ∃ W, w.alloc (.cells (bcs d) 30) = W := ⟨_, rfl⟩
  obtain ⟨B, hB⟩ : ∃ x, w.heap.size = x := ⟨_, rfl⟩
  have hb0 : Below B w w0 := by rw [← hw0, ← hB]; exact (Below.refl _ _).alloc (Nat.le_refl _) _
  have hy : Yw w0 B 30 d := by rw [← hw0, ← hB]; exact heap_alloc_new _ _
  have c0 : w0.cell? ⟨B, 0, none⟩ = some (.int .u8 (d.getD 0 0)) := by rw [cell_of_row w0 B 0 _ _ _ hy, bcs_at hd.1 (by omega)]
  have c1 : w0.cell? ⟨B, 1, none⟩ = some (.int .u8 (d.getD 1 0)) := by rw [cell_of_row w0 B 1 _ _ _ hy, bcs_at hd.1 (by omega)]
  obtain ⟨t0, t1⟩ := (h.later (by rw [hB]; exact hb0)).cells
  obtain ⟨n, hnn⟩ : ∃ n, A.length = n := ⟨_, rfl⟩
  rw [hnn] at t0 hn hn2
  rw [hnn]
  have ha := hd.2 0
  have hb := hd.2 1
  have hnum := home_num (n := n) ha hb
  have hor := own_or ha hb
  have HE : Hid ((d.getD 0 0 + 256 * d.getD 1 0).toNat % n = hmN d % n) := Lib.hid rfl
  obtain ⟨a, ha'⟩ : ∃ x, d.getD 0 0 = x := ⟨_, rfl⟩
  obtain ⟨b, hb'⟩ : ∃ x, d.getD 1 0 = x := ⟨_, rfl⟩
  rw [ha'] at c0 ha hnum HE hor
  rw [hb'] at c1 hb hnum HE hor
  obtain ⟨ha0, ha1⟩ := ha
  obtain ⟨hb0', hb1'⟩ := hb
  have HB0 := Lib.hid hb0
  rw [HE.out] at hnum
  generalize hM : bcs d = M at *
  obtain ⟨r, hr⟩ : ∃ r, hmN d % n = r := ⟨_, rfl⟩
  rw [hr] at hnum
  rw [hr]
  have hn0 : (0 : Int) < (n : Int) := by omega
  have hnn : (n : Int) ≤ 4194304 := by omega
  have hw1 : IntKind.i64.wrap (b * 256) = b * 256 := by rw [IntKind.wrap_i64]; omega
  have hw2 : IntKind.i64.wrap (b * 2 ^ 8) = b * 256 := by rw [show b * 2 ^ 8 = b * 256 by omega]; exact hw1
  clear hd hy ha' hb' hM hr HE hb0 h t1
  go_enter Try.func36, Try.ntmps36
  go_wp2
  go_quiet (fail)
  have HBD : Hid (Below B w (w0.drewN nq)) := Lib.hid (below_drewN HB0.out nq)
  go_wp2
  go_ret
  exact ⟨by first | rfl | rw [hnum], by rw [hB]; exact HBD.out⟩
set_option maxRecDepth 100000 in
theorem next_any {w : World} {bT bS : Nat} {A : Sl} {c : Nat} (p : Nat) (h : Tm w bT bS A c) (hp : p < A.length) (hn2 : A.length ≤ 4194304) :
    Calls Try.prog 37 #[.pointer (some ⟨bT, 0, none⟩), .int .i64 (p : Int)] w fun e w' => e = .returned (.int .i64 (((p + 1) % A.length : Nat) : Int)) ∧ Below w.heap.size w w' := by
  obtain ⟨t0, t1⟩ := h.cells
  obtain ⟨n, hnn⟩ : ∃ n, A.length = n := ⟨_, rfl⟩
  rw [hnn] at t0 hp hn2
  rw [hnn]
  have hn0 : (0 : Int) < (n : Int) := by omega
  have hpi : (p : Int) < (n : Int) := by omega
  have hp0 : (0 : Int) ≤ (p : Int) := by omega
  have hni : (n : Int) ≤ 4194304 := by omega
  have htm : ((p : Int) + 1).tmod (n : Int) = (((p + 1) % n : Nat) : Int) := rfl
  clear h t1 hnn
  go_enter Try.func37, Try.ntmps37
  go_wp2
  go_ret
  exact ⟨by first | rfl | rw [htm], Below.refl _ _⟩
set_option maxRecDepth 100000 in
theorem most_any {w : World} {bT bS : Nat} {A : Sl} {c : Nat} (h : Tm w bT bS A c) (hn2 : A.length ≤ 4194304) :
    Calls Try.prog 27 #[.pointer (some ⟨bT, 0, none⟩)] w fun e w' => e = .returned (.int .i64 ((A.length / 4 * 3 : Nat) : Int)) ∧ Below w.heap.size w w' := by
  obtain ⟨t0, t1⟩ := h.cells
  obtain ⟨n, hnn⟩ : ∃ n, A.length = n := ⟨_, rfl⟩
  rw [hnn] at t0 hn2
  rw [hnn]
  have hni : (n : Int) ≤ 4194304 := by omega
  have htm : ((n : Int)).tdiv (4 : Int) = ((n / 4 : Nat) : Int) := rfl
  obtain ⟨m, hm⟩ : ∃ m, n / 4 = m := ⟨_, rfl⟩
  have hdv : (n : Int) / 4 = (m : Int) := by omega
  rw [hm] at htm
  rw [hm]
  have hmi : (m : Int) ≤ 1048576 := by omega
  clear h t1 hnn
  go_enter Try.func27, Try.ntmps27
  go_wp2
  go_ret
  exact ⟨by first | rfl | (rw [htm]; rfl) | (rw [hdv]; rfl), Below.refl _ _⟩
set_option maxRecDepth 100000 in
set_option maxHeartbeats 1000000 in
theorem steps_any {w : World} {bT bS : Nat} {A : Sl} {c : Nat} (p q : Nat) (h : Tm w bT bS A c) (hp : p < A.length) (hq : q < A.length) (hn2 : A.length ≤ 4194304) :
    Calls Try.prog 38 #[.pointer (some ⟨bT, 0, none⟩), .int .i64 (p : Int), .int .i64 (q : Int)] w fun e w' => e = .returned (.int .i64 (((q + (A.length - p)) % A.length : Nat) : Int)) ∧ Below w.heap.size w w' := by
  obtain ⟨t0, t1⟩ := h.cells
  obtain ⟨n, hnn⟩ : ∃ n, A.length = n := ⟨_, rfl⟩
  rw [hnn] at t0 hp hq hn2
  rw [hnn]
  have hn0 : (0 : Int) < (n : Int) := by omega
  have hpi : (p : Int) < (n : Int) := by omega
  have hp0 : (0 : Int) ≤ (p : Int) := by omega
  have hqi : (q : Int) < (n : Int) := by omega
  have hq0 : (0 : Int) ≤ (q : Int) := by omega
  have hni : (n : Int) ≤ 4194304 := by omega
  have HT : Hid (((q : Int) - (p : Int) + (n : Int)).tmod (n : Int) = (((q + (n - p)) % n : Nat) : Int)) := Lib.hid (by
    rw [show (q : Int) - (p : Int) + (n : Int) = ((q + (n - p) : Nat) : Int) by omega]
    rfl)
  have HT2 : Hid (((q : Int) - (p : Int) + (n : Int)) % (n : Int) = (((q + (n - p)) % n : Nat) : Int)) := Lib.hid (by
    rw [show (q : Int) - (p : Int) + (n : Int) = ((q + (n - p) : Nat) : Int) by omega]
    rfl)
  have hw1 : IntKind.i64.wrap ((q : Int) - (p : Int)) = (q : Int) - (p : Int) := by rw [IntKind.wrap_i64]; omega
  have hw2 : IntKind.i64.wrap ((q : Int) - (p : Int) + (n : Int)) = (q : Int) - (p : Int) + (n : Int) := by rw [IntKind.wrap_i64]; omega
  clear h t1 hnn
  go_enter Try.func38, Try.ntmps38
  go_wp2
  go_quiet (fail)
  have HBD : Hid (Below w.heap.size w (w.drewN nq)) := Lib.hid (below_drewN (Below.refl _ _) nq)
  go_wp2
  go_ret
  exact ⟨by first | rfl | (rw [HT.out]; rfl) | (rw [HT2.out]; rfl), HBD.out⟩
end Go.Proofs.Ytfdmpbhgejahaaa

namespace Go.Proofs.Ytfdmpbhgejahaaa
set_option linter.unusedVariables false
open Go.RowKit Go.Lib

/-- what find answers -/
def FindQ (A : Sl) (d : List Int) (w : World) (e : Ending) (w' : World) : Prop := ∃ t b, e = .returned (.tuple #[.int .i64 ((posN A d t : Nat) : Int), .bool b]) ∧ t < A.length ∧ Pre A d t ∧ (b = false ∧ atS A (posN A d t) = none ∨ b = true ∧ ∃ y, atS A (posN A d t) = some y ∧ y.dg = d) ∧ Below w.heap.size w w'
set_option maxRecDepth 100000 in
set_option maxHeartbeats 2000000 in
theorem find_any {w : World} {bT bS : Nat} {A : Sl} {c : Nat} (d : List Int) (h : Tm w bT bS A c) (hk : ∀ p x, atS A p = some x → dok x.dg) (hf : (cont A).length < A.length) (hn : A.length ≤ 4194304) (hd : dok d) :
    Calls Try.prog 26 #[.pointer (some ⟨bT, 0, none⟩), .agg (bcs d)] w (FindQ A d w) := by
  obtain ⟨w0, hw0⟩ : ∃ W, w.alloc (.cells (bcs d) 30) = W := ⟨_, rfl⟩
  obtain ⟨B, hB⟩ : ∃ x, w.heap.size = x := ⟨_, rfl⟩
  have hb0 : Below B w w0 := by rw [← hw0, ← hB]; exact (Below.refl _ _).alloc (Nat.le_refl _) _
  have hy : Yw w0 B 30 d := by rw [← hw0, ← hB]; exact heap_alloc_new _ _
  have HLD : Hid (∀ W, Below w0.heap.size w0 W → (Instr.loadAt 30 (.pointer (some ⟨B, 0, none⟩))).run Try.prog W = .ok (.agg (bcs d)) W) := Lib.hid fun W hW => dig_load (hy.later hW) hd.1
  have H0 := Lib.hid (h.later (by rw [hB]; exact hb0))
  have HB0 := Lib.hid hb0
  have HBE := Lib.hid (Below.refl w0.heap.size w0)
  have HK := Lib.hid hk
  have HF := Lib.hid hf
  have HD := Lib.hid hd
  have HNX0 := Lib.hid fun W p (hW : Below w0.heap.size w0 W) (hp : p < A.length) => next_any p (H0.out.later hW) hp hn
  obtain ⟨n, hnn⟩ : ∃ n, A.length = n := ⟨_, rfl⟩
  have HN : Hid (A.length = n) := Lib.hid hnn
  have hnp : 0 < n := by omega
  have hn2 : n ≤ 4194304 := by omega
  have hp0 : hmN d % n = posN A d 0 := by unfold posN; rw [hnn, Nat.add_zero]
  have HH := Lib.hid fun W (hW : Below w0.heap.size w0 W) => own_any d (H0.out.later hW) hd (by omega) hn
  rw [hnn, hp0] at HH
  rw [hnn] at HNX0
  obtain ⟨h0, hh0⟩ : ∃ x, posN A d 0 = x := ⟨_, rfl⟩
  have HHM : Hid (h0 = hmN d % n) := Lib.hid (by rw [hp0, hh0])
  have HH0 := Lib.hid hh0
  rw [hh0] at HH
  clear h hk hf hd hb0 hy hn hnn hp0 hh0
  generalize hM : bcs d = M at *
  have HM := Lib.hid hM
  clear hM
  go_enter Try.func26, Try.ntmps26
  go_wp2
  go_step3
  go_wp2_with (first
    | (refine wpList_ld rfl 30 _ rfl _ rfl _ (HLD.out _ HBE.out) ?_)
    | (go_at_call 36; refine (HH.out _ HBE.out).mono ?_; rintro e w1 ⟨rfl, hb1⟩; have HB1 := Lib.hid hb1; clear hb1))
  go_step3
  go_wp2
  go_loopw [6] (fun iv wr => ∃ t : Nat, iv = .int .i64 ((posN A d t : Nat) : Int) ∧ Hid (Pre A d t) ∧ Hid (Below w0.heap.size w0 wr)) (fun iv _ => n - ((intZ iv).toNat + (n - h0)) % n)
  case atStart => exact ⟨0, by rw [HH0.out], Lib.hid (Pre.zero _ _), HB1⟩
  case round =>
    obtain ⟨t, rfl, HPR, HBR⟩ := hrel
    have htn : t < n := by rw [← HN.out]; exact HPR.out.lt HF.out
    have hpl : posN A d t < A.length := posN_lt (by rw [HN.out]; exact hnp) d t
    have HNX : Hid (posN A d (t + 1) = (posN A d t + 1) % n) := Lib.hid (by rw [posN_succ, HN.out])
    have HMS : Hid (t = (posN A d t + (n - h0)) % n) := Lib.hid (by
      have h1 := dist_own (A := A) (d := d) (u := t) (by rw [HN.out]; exact htn) rfl
      rw [HN.out, ← HHM.out] at h1
      exact h1)
    obtain ⟨p, hp⟩ : ∃ p, posN A d t = p := ⟨_, rfl⟩
    have HPE := Lib.hid hp
    rw [hp] at hpl HNX HMS
    have HIT := Lib.hid (H0.out.later HBR.out)
    have HIR : Hid (Ir encSl wr bS A) := Lib.hid HIT.out.ir
    obtain ⟨t0, t1⟩ := HIT.out.cells
    rw [HN.out] at t0
    have hpn : p < n := by rw [← HN.out]; exact hpl
    have hpi : (p : Int) < (n : Int) := by omega
    have hp0 : (0 : Int) ≤ (p : Int) := by omega
    have HPL := Lib.hid hpl
    rw [hp]
    clear hp hpl t1
    cases hat : atS A p with
    | none =>
      have c0 := sl_none HIR.out HPL.out hat
      have HAT := Lib.hid hat
      clear hat
      go_wp2
      (try rw [Exit.noGoto_ret])
      go_ret2
      exact ⟨t, false, by rw [HPE.out]; rfl, by rw [HN.out]; exact htn, HPR.out, Or.inl ⟨rfl, by rw [HPE.out]; exact HAT.out⟩, by rw [hB]; exact HB0.out.trans (HBR.out.mono (by rw [← hB]; exact HB0.out.size))⟩
    | some y =>
      have HKY := Lib.hid (HK.out p y hat)
      obtain ⟨c0, c1, _⟩ := sl_some HIR.out hat HKY.out.1
      have HAT := Lib.hid hat
      have HL1 : Hid (∀ W, (∃ m, W = wr.drewN m) → (Instr.loadAt 30 (.pointer (some ⟨bS, p * 34 + 1, none⟩))).run Try.prog W = .ok (.agg (bcs y.dg)) W) := Lib.hid (by rintro W ⟨m, rfl⟩; exact sl_dig (rngS_later c1 (below_drewN (Below.refl _ _) _)) HKY.out.1)
      have HL2 : Hid (∀ W, (∃ m, W = wr.drewN m) → (Instr.loadAt 30 (.pointer (some ⟨B, 0, none⟩))).run Try.prog W = .ok (.agg M) W) := Lib.hid (by rintro W ⟨m, rfl⟩; exact HLD.out _ (HBR.out.trans (below_drewN ((Below.refl _ _)) _)))
      have heq := fun W => digest_eq y.dg d HKY.out HD.out W
      rw [HM.out] at heq
      clear hat c1
      go_wp2
      refine wp_region_quiet_lit (by kernel_rfl) (by kernel_rfl) ?_
      repeat (first | (refine quiet_want rfl fun K hK => quiet_load 30 _ rfl _ rfl _ (HL1).out (hK _ ?_); clear hK K) | (refine quiet_want rfl fun K hK => quiet_load 30 _ rfl _ rfl _ (HL2).out (hK _ ?_); clear hK K) | (quiet_step (fail)))
      refine wpQuiet_nil ?_
      intro wd hw'
      obtain ⟨nq, hwd⟩ := hw'
      have hbd : Below wr.heap.size wr wd := by rw [hwd]; exact below_drewN (Below.refl _ _) _
      have HB2 : Hid (Below w0.heap.size w0 wd) := Lib.hid (below_step HBR.out hbd)
      clear hwd hbd heq c0 t0
      by_cases hxd : y.dg = d
      · have hT : decide (y.dg = d) = true := by simpa using hxd
        go_wp2
        (try rw [Exit.noGoto_ret])
        go_ret2
        exact ⟨t, true, by rw [HPE.out]; rfl, by rw [HN.out]; exact htn, HPR.out, Or.inr ⟨rfl, y, by rw [HPE.out]; exact HAT.out, hxd⟩, by rw [hB]; exact HB0.out.trans (HB2.out.mono (by rw [← hB]; exact HB0.out.size))⟩
      · have hT : decide (y.dg = d) = false := by simpa using hxd
        have HPS := Lib.hid (HPR.out.succ (by rw [HPE.out]; exact HAT.out) hxd)
        have htn1 : t + 1 < n := by rw [← HN.out]; exact HPS.out.lt HF.out
        have HMS2 : Hid (t + 1 = ((p + 1) % n + (n - h0)) % n) := Lib.hid (by
          have h1 := dist_own (A := A) (d := d) (u := t + 1) (by rw [HN.out]; exact htn1) rfl
          rw [HN.out, ← HHM.out, HNX.out] at h1
          exact h1)
        have HPLn : Hid (p < n) := Lib.hid hpn
        go_wp2_with (go_at_call 37; refine (HNX0.out _ _ HB2.out HPLn.out).mono ?_; rintro e w3 ⟨rfl, hb3⟩; have HB3 := Lib.hid (below_step HB2.out hb3); clear hb3)
        exact ⟨⟨t + 1, by rw [HNX.out]; rfl, HPS, HB3⟩, by
          show n - ((((p + 1) % n : Nat) : Int).toNat + (n - h0)) % n < n - (((p : Nat) : Int).toNat + (n - h0)) % n
          rw [Int.toNat_natCast, Int.toNat_natCast, ← HMS2.out, ← HMS.out]
          omega⟩
end Go.Proofs.Ytfdmpbhgejahaaa

namespace Go.Proofs.Ytfdmpbhgejahaaa
set_option linter.unusedVariables false
open Go.RowKit Go.Lib

set_option maxRecDepth 100000 in
set_option maxHeartbeats 1000000 in
theorem new_any (w : World) : Calls Try.prog 6 #[] w fun e w' => ∃ v S, e = .returned v ∧ Tb w' S v [] 8 ∧ Below w.heap.size w w' ∧ ∀ b, S b → w.heap.size ≤ b := by
  obtain ⟨i0, hi, hz0, hz1, hz2⟩ := info_parts infoSl
  go_enter Try.func6, Try.ntmps6
  go_wp2_with (refine wpList_make_full _ rfl _ _ 55 rfl w.heap.size encSl.t i0 (.agg (encSl.f none).toArray) 34 Try.underlying55 hi hz0 hz1 _ _ _ _ 8 rfl rfl rfl rfl (by rw [hz2]; decide) (by unfold maxLen; decide) (Nat.le_refl _) ?_; intro w1 hrow1 hg1; have HR1 : Hid (Ir encSl w1 w.heap.size (List.replicate 8 none)) := Lib.hid (Ir.made (base := w.heap.size) (n := 8) (by decide) hrow1); have HB1 : Hid (Below w.heap.size w w1) := Lib.hid (below_none hg1); clear hrow1 hg1)
  go_ret
  have hb : Below w.heap.size w (w1.alloc (.cells #[.slice (some ⟨w.heap.size, 0, none⟩) 8 8, .int .i64 0] 57)) := HB1.out.alloc HB1.out.size _
  have hlt := HR1.out.lt
  refine ⟨_, _, rfl, ⟨w1.heap.size, w.heap.size, List.replicate 8 none, 0, rfl, rfl, ⟨heap_alloc_new _ _, HR1.out.later ((Below.refl _ _).alloc (Nat.le_refl _) _), by omega⟩, tbp_new⟩, hb, ?_⟩
  rintro b (rfl | rfl)
  · exact HB1.out.size
  · exact Nat.le_refl _
set_option maxRecDepth 100000 in
theorem len_any {w : World} {S : Nat → Prop} {v : Value} {L : List Pr} {s : Int} (h : Tb w S v L s) : Calls Try.prog 14 #[v] w fun e w' => e = .returned (.int .i64 (L.length : Int)) ∧ Below w.heap.size w w' := by
  obtain ⟨bT, bS, A, c, rfl, rfl, hm, hp⟩ := h
  obtain ⟨c0, c1⟩ := hm.cells
  obtain rfl := hp.cnt
  clear hm hp
  go_enter Try.func14, Try.ntmps14
  go_wp2
  go_ret
  exact ⟨rfl, Below.refl _ _⟩
set_option maxRecDepth 100000 in
theorem slots_any {w : World} {S : Nat → Prop} {v : Value} {L : List Pr} {s : Int} (h : Tb w S v L s) : Calls Try.prog 15 #[v] w fun e w' => e = .returned (.int .i64 s) ∧ Below w.heap.size w w' := by
  obtain ⟨bT, bS, A, c, rfl, rfl, hm, hp⟩ := h
  obtain ⟨c0, c1⟩ := hm.cells
  obtain rfl := hp.sl
  clear hm hp
  go_enter Try.func15, Try.ntmps15
  go_wp2
  go_ret
  exact ⟨rfl, Below.refl _ _⟩
theorem sl_none_v {W : World} {b : Nat} {A : Sl} (h : Ir encSl W b A) {p : Nat} (hp : p < A.length) (hn : atS A p = none) : W.cell? ⟨b, p * 34 + 33, none⟩ = some (.int .i64 0) := by
  have h1 := h.range hp
  have e : A.getD p encSl.d = none := by rw [List.getD_eq_getElem?_getD, atS_get hp, hn]; rfl
  rw [e] at h1
  exact h1 33 _ (by kernel_rfl)
set_option maxRecDepth 100000 in
set_option maxHeartbeats 2000000 in
theorem get_any {w : World} {S : Nat → Prop} {v : Value} {L : List Pr} {s : Int} (d : List Int) (h : Tb w S v L s) (hd : dok d) : Calls Try.prog 13 #[v, .agg (bcs d)] w fun e w' =>
    e = .returned (.tuple #[.int .i64 ((getN L d).getD 0), .bool (getN L d).isSome]) ∧ Below w.heap.size w w' := by
  obtain ⟨bT, bS, A, c, rfl, rfl, hm, hp⟩ := h
  obtain ⟨w0, hw0⟩ : ∃ W, w.alloc (.cells (bcs d) 30) = W := ⟨_, rfl⟩
  obtain ⟨B, hB⟩ : ∃ x, w.heap.size = x := ⟨_, rfl⟩
  have hb0 : Below B w w0 := by rw [← hw0, ← hB]; exact (Below.refl _ _).alloc (Nat.le_refl _) _
  have hy : Yw w0 B 30 d := by rw [← hw0, ← hB]; exact heap_alloc_new _ _
  have HLD : Hid (∀ W, Below w0.heap.size w0 W → (Instr.loadAt 30 (.pointer (some ⟨B, 0, none⟩))).run Try.prog W = .ok (.agg (bcs d)) W) := Lib.hid fun W hW => dig_load (hy.later hW) hd.1
  have HM0 := Lib.hid (hm.later (by rw [hB]; exact hb0))
  have HB0 := Lib.hid hb0
  have HBE := Lib.hid (Below.refl w0.heap.size w0)
  have HP := Lib.hid hp
  have HD := Lib.hid hd
  have HFI := Lib.hid fun W (hW : Below w0.heap.size w0 W) => find_any d (HM0.out.later hW) hp.dka hp.free hp.n4 hd
  have hgp := getN_perm hp.pm hp.uq d
  rw [hgp]
  have hn8 := hp.n8
  clear hm hp hd hb0 hy hgp
  obtain ⟨n, hn⟩ : ∃ n, A.length = n := ⟨_, rfl⟩
  have HN := Lib.hid hn
  rw [hn] at hn8
  generalize hM : bcs d = M at *
  clear hM hn
  go_enter Try.func13, Try.ntmps13
  go_upto_region 5 with (first
    | (refine wpList_ld rfl 30 _ rfl _ rfl _ (HLD.out _ HBE.out) ?_)
    | (go_at_call 26; refine (HFI.out _ HBE.out).mono ?_; rintro e w1 ⟨t, fb, rfl, htn, hpre, hor, hb1⟩))
  have HM1 := Lib.hid (HM0.out.later hb1)
  have HBA : Hid (Below w.heap.size w w1) := Lib.hid (by rw [hB]; exact HB0.out.trans (hb1.mono (by rw [← hB]; exact HB0.out.size)))
  have HPRE := Lib.hid hpre
  have hpl : posN A d t < n := by rw [← HN.out]; exact posN_lt (by omega) d t
  obtain ⟨p, hpp⟩ : ∃ p, posN A d t = p := ⟨_, rfl⟩
  have HPP := Lib.hid hpp
  rw [hpp] at hor hpl
  rw [hpp]
  have hpi : (p : Int) < (n : Int) := by omega
  have hp0 : (0 : Int) ≤ (p : Int) := by omega
  obtain ⟨q0, q1⟩ := HM1.out.cells
  rw [HN.out] at q0
  clear hpre hpp htn hb1
  rcases hor with ⟨rfl, hor⟩ | ⟨rfl, y, hor, hyd⟩
  · have x2 := sl_none_v HM1.out.ir (by rw [HN.out]; exact hpl) hor
    have HE : Hid (getN (cont A) d = none) := Lib.hid (HPRE.out.none HP.out.iv (by rw [HPP.out]; exact hor))
    clear hor
    go_wp2
    go_ret2
    exact ⟨by rw [HE.out]; rfl, HBA.out⟩
  · obtain ⟨_, _, x2⟩ := sl_some HM1.out.ir hor (HP.out.dka p y hor).1
    have HE : Hid (getN (cont A) d = some y.v) := Lib.hid (by rw [← hyd]; exact at_get HP.out.uc hor)
    obtain ⟨yv, hyv⟩ : ∃ x, y.v = x := ⟨_, rfl⟩
    rw [hyv] at x2 HE
    clear hor hyd hyv
    go_wp2
    go_ret2
    exact ⟨by rw [HE.out]; rfl, HBA.out⟩
end Go.Proofs.Ytfdmpbhgejahaaa

namespace Go.Proofs.Ytfdmpbhgejahaaa
set_option linter.unusedVariables false
open Go.RowKit Go.Lib

theorem sl_sz (z : Option Pr) : (encSl.f z).toArray.size = 34 := by rw [List.size_toArray]; exact encSl.len z
/-- what double leaves -/
def GrQ (W : World) (bT : Nat) (A : Sl) (c : Nat) (e : Ending) (w' : World) : Prop :=
  ∃ bS2 A2, e = .returned (.tuple #[]) ∧ Tm w' bT bS2 A2 c ∧ GrP A A2 ∧ Chg (fun b => b = bT) W w' ∧ W.heap.size ≤ bS2
def GrowOk : Prop := ∀ (W : World) (bT bS : Nat) (A : Sl) (c : Nat), Tm W bT bS A c → Inv A → Uniq (cont A) → (∀ p x, atS A p = some x → dok x.dg) → (cont A).length < A.length → 8 ≤ A.length → A.length ≤ 2097152 →
  Calls Try.prog 28 #[.pointer (some ⟨bT, 0, none⟩)] W fun e w' => GrQ W bT A c e w'
/-- what Put leaves -/
def PutQ (w : World) (S : Nat → Prop) (v : Value) (L : List Pr) (d : List Int) (x s : Int) (e : Ending) (w' : World) : Prop :=
  ∃ S', e = .returned (.tuple #[]) ∧ Tb w' S' v (putN L d x) (slotsN L s d) ∧ Chg S w w' ∧ ∀ b, S' b → S b ∨ w.heap.size ≤ b
set_option maxRecDepth 100000 in
set_option maxHeartbeats 4000000 in
theorem put_any (hG : GrowOk) {w : World} {S : Nat → Prop} {v : Value} {L : List Pr} {s : Int} (d : List Int) (x : Int) (h : Tb w S v L s) (hd : dok d) (hL : L.length ≤ 1048576) :
    Calls Try.prog 8 #[v, .agg (bcs d), .int .i64 x] w fun e w' => PutQ w S v L d x s e w' := by
  obtain ⟨bT, bS, A, c, rfl, rfl, hm, hp⟩ := h
  obtain ⟨w0, hw0⟩ : ∃ W, w.alloc (.cells (bcs d) 30) = W := ⟨_, rfl⟩
  obtain ⟨B, hB⟩ : ∃ g, w.heap.size = g := ⟨_, rfl⟩
  have hb0 : Below B w w0 := by rw [← hw0, ← hB]; exact (Below.refl _ _).alloc (Nat.le_refl _) _
  have hy : Yw w0 B 30 d := by rw [← hw0, ← hB]; exact heap_alloc_new _ _
  have hBS : ¬ (B = bT ∨ B = bS) := by have h1 := hm.lt; have h2 := hm.ir.lt; omega
  have HLD : Hid (∀ W, Chg (fun b => b = bT ∨ b = bS) w0 W → (Instr.loadAt 30 (.pointer (some ⟨B, 0, none⟩))).run Try.prog W = .ok (.agg (bcs d)) W) := Lib.hid fun W hW => dig_load (show Yw W B 30 d from (hW.block B (Array.getElem?_eq_some_iff.1 hy).1 hBS).trans hy) hd.1
  have HCR : Hid (Chg (fun b => b = bT ∨ b = bS) w0 w0) := Lib.hid (Chg.refl _ _)
  have HBE := Lib.hid (Below.refl w0.heap.size w0)
  have HM0 := Lib.hid (hm.later (by rw [hB]; exact hb0))
  have HB0 : Hid (Chg (fun b => b = bT ∨ b = bS) w w0) := Lib.hid (Chg.of_below (by rw [hB]; exact hb0))
  have HP := Lib.hid hp
  have HD := Lib.hid hd
  have HLL := Lib.hid hL
  have HG := Lib.hid hG
  have HBL := Lib.hid (built_sl x d hd.1)
  have HFI := Lib.hid fun W (hW : Below w0.heap.size w0 W) => find_any d (HM0.out.later hW) hp.dka hp.free hp.n4 hd
  have hcn : c ≤ 1048576 := by rw [hp.cnt]; exact hL
  have hc3 : 4 * c ≤ 3 * A.length := by rw [hp.cnt]; exact hp.load
  have hn4 := hp.n4
  have hn8 := hp.n8
  have hdv := hp.dv
  clear hG hm hp hd hL hb0 hy hBS
  obtain ⟨n, hn⟩ : ∃ n, A.length = n := ⟨_, rfl⟩
  have HN := Lib.hid hn
  rw [hn] at hn4 hn8 hc3 hdv
  generalize hM : bcs d = M at *
  have HMM := Lib.hid hM
  clear hM hn
  go_enter Try.func8, Try.ntmps8
  go_upto_region 3 with (first
    | (refine wpList_ld rfl 30 _ rfl _ rfl _ (HLD.out _ HCR.out) ?_)
    | (go_at_call 26; refine (HFI.out _ HBE.out).mono ?_; rintro e w1 ⟨t, fb, rfl, htn, hpre, hor, hb1⟩))
  have HM1 := Lib.hid (HM0.out.later hb1)
  have HC1 : Hid (Chg (fun b => b = bT ∨ b = bS) w0 w1) := Lib.hid (Chg.of_below hb1)
  have HPRE := Lib.hid hpre
  have hpl : posN A d t < n := by rw [← HN.out]; exact posN_lt (by omega) d t
  have HTN := Lib.hid htn
  obtain ⟨p, hpp⟩ : ∃ p, posN A d t = p := ⟨_, rfl⟩
  have HPP := Lib.hid hpp
  rw [hpp] at hor hpl
  rw [hpp]
  have HPL : Hid (p < A.length) := Lib.hid (by rw [HN.out]; exact hpl)
  have hpi : (p : Int) < (n : Int) := by omega
  have hp0 : (0 : Int) ≤ (p : Int) := by omega
  clear hpre hpp htn hb1
  rcases hor with ⟨rfl, hor⟩ | ⟨rfl, y, hor, hyd⟩
  · obtain ⟨q0, q1⟩ := HM1.out.cells
    have HAT := Lib.hid hor
    have HGN : Hid (getN (cont A) d = none) := Lib.hid (HPRE.out.none HP.out.iv (by rw [HPP.out]; exact HAT.out))
    obtain ⟨m, hm3⟩ : ∃ m, n / 4 * 3 = m := ⟨_, rfl⟩
    have HMO : Hid (∀ W, Below w1.heap.size w1 W → Calls Try.prog 27 #[.pointer (some ⟨bT, 0, none⟩)] W fun e w' => e = .returned (.int .i64 (m : Int)) ∧ Below W.heap.size W w') := Lib.hid fun W hW => by
      have h1 := most_any (HM1.out.later hW) (by rw [HN.out]; exact hn4)
      rw [HN.out, hm3] at h1
      exact h1
    have HM3 := Lib.hid hm3
    rw [HN.out] at q0
    clear hor hm3 q0
    refine wp_region_held_drew (S := (fun W : World => W.cell? ⟨bT, 1, none⟩ = some (.int .i64 (c : Int)) ∧ Below w1.heap.size w1 W)) (by kernel_rfl) ⟨q1, (Below.refl _ _).drew⟩ (fun hHeld => ?_)
    refine take_at 0 (v := ?vv1) rfl (by kernel_rfl) (by kernel_rfl) (by kernel_rfl) (fun _ _ _ h => h) (Or.inl ⟨by rfl, ?hy1⟩) (by assumption) ?rest1
    case hy1 => intro w hSw; (try dsimp only at hSw); go_simp; (try with_reducible rfl)
    (try simp only [Act.put, List.setIfInBounds_toArray, List.set_cons_zero, List.set_cons_succ])
    refine take_at 1 (v := ?vv2) rfl (by kernel_rfl) (by kernel_rfl) (by kernel_rfl) (fun _ _ _ h => h) (Or.inl ⟨by rfl, ?hy2⟩) (by assumption) ?rest2
    case hy2 => intro w hSw; (try dsimp only at hSw); go_simp; (try with_reducible rfl)
    (try simp only [Act.put, List.setIfInBounds_toArray, List.set_cons_zero, List.set_cons_succ])
    refine take_at 2 (v := ?vv3) rfl (by kernel_rfl) (by kernel_rfl) (by kernel_rfl) (fun _ _ _ h => h) (Or.inl ⟨by rfl, ?hy3⟩) (by assumption) ?rest3
    case hy3 => intro w hSw; (try dsimp only at hSw); go_simp; (try with_reducible rfl)
    (try simp only [Act.put, List.setIfInBounds_toArray, List.set_cons_zero, List.set_cons_succ])
    refine take_at 3 (v := ?vv4) rfl (by kernel_rfl) (by kernel_rfl) (by kernel_rfl) (fun _ _ _ h => h) (Or.inl ⟨by rfl, ?hy4⟩) (by assumption) ?rest4
    case hy4 => intro w hSw; (try dsimp only at hSw); go_simp; (try with_reducible rfl)
    (try simp only [Act.put, List.setIfInBounds_toArray, List.set_cons_zero, List.set_cons_succ])
    refine take_at 4 (v := ?vv5) rfl (by kernel_rfl) (by kernel_rfl) (by kernel_rfl) (fun _ _ _ h => h) (Or.inl ⟨by rfl, ?hy5⟩) (by assumption) ?rest5
    case hy5 => intro w hSw; (try dsimp only at hSw); go_simp; (try with_reducible rfl)
    (try simp only [Act.put, List.setIfInBounds_toArray, List.set_cons_zero, List.set_cons_succ])
    refine take_at 5 (v := ?vv6) rfl (by kernel_rfl) (by kernel_rfl) (by kernel_rfl) (fun _ _ _ h => h) (Or.inl ⟨by rfl, ?hy6⟩) (by assumption) ?rest6
    case hy6 => intro w hSw; (try dsimp only at hSw); go_simp; (try with_reducible rfl)
    (try simp only [Act.put, List.setIfInBounds_toArray, List.set_cons_zero, List.set_cons_succ])
    refine take_at 6 (v := ?vv7) rfl (by kernel_rfl) (by kernel_rfl) (by kernel_rfl) (fun _ _ _ h => h) (Or.inl ⟨by rfl, ?hy7⟩) (by assumption) ?rest7
    case hy7 => intro w hSw; (try dsimp only at hSw); go_simp; (try with_reducible rfl)
    (try simp only [Act.put, List.setIfInBounds_toArray, List.set_cons_zero, List.set_cons_succ])
    refine take_at 7 (v := ?vv8) rfl (by kernel_rfl) (by kernel_rfl) (by kernel_rfl) (fun _ _ _ h => h) (Or.inl ⟨by rfl, ?hy8⟩) (by assumption) ?rest8
    case hy8 => intro w hSw; (try dsimp only at hSw); go_simp; (try with_reducible rfl)
    (try simp only [Act.put, List.setIfInBounds_toArray, List.set_cons_zero, List.set_cons_succ])
    refine ready_at 8 rfl (by kernel_rfl) (fun K hK => ?_)
    go_simp
    refine (HMO.out _ hHeld.2).mono ?_
    rintro e wd ⟨rfl, hbd0⟩
    have hbd := below_step hHeld.2 hbd0
    have r1 := (HM1.out.later hbd).cells.2
    clear hbd0
    first
      | refine hK.out _ _ ?hS9 (fun hHeld => ?rest9)
      | (go_wp2_with fail; refine hK.out _ _ ?hS9 (fun hHeld => ?rest9))
    case hS9 => exact ⟨r1, hbd⟩
    clear hK K
    (try simp only [Act.put, List.setIfInBounds_toArray, List.set_cons_zero, List.set_cons_succ])
    refine take_at 9 (v := ?vv10) rfl (by kernel_rfl) (by kernel_rfl) (by kernel_rfl) (fun _ _ _ h => h) (Or.inl ⟨by rfl, ?hy10⟩) (by assumption) ?rest10
    case hy10 => intro w hSw; (try dsimp only at hSw); go_simp; (try with_reducible rfl)
    (try simp only [Act.put, List.setIfInBounds_toArray, List.set_cons_zero, List.set_cons_succ])
    refine take_at 10 (v := ?vv11) rfl (by kernel_rfl) (by kernel_rfl) (by kernel_rfl) (fun _ _ _ h => h) (Or.inl ⟨by rfl, ?hy11⟩) (by assumption) ?rest11
    case hy11 => intro w hSw; (try dsimp only at hSw); go_simp; (try with_reducible rfl)
    (try simp only [Act.put, List.setIfInBounds_toArray, List.set_cons_zero, List.set_cons_succ])
    refine wpAnyH_done (by kernel_rfl) ?_ _
    have HMD := Lib.hid (HM1.out.later hbd)
    have HCD : Hid (Chg (fun b => b = bT ∨ b = bS) w0 wd) := Lib.hid (Chg.tr HC1.out (Chg.of_below (S := fun b => b = bT ∨ b = bS) hbd) (fun b hb => Or.inl hb))
    clear q1 hbd
    by_cases hc : c = m
    · have HC : Hid (3 * A.length < 4 * (c + 1)) := Lib.hid (by rw [HN.out]; have := HM3.out; omega)
      have hn2 : n ≤ 2097152 := by have := HM3.out; omega
      have HN2 := Lib.hid hn2
      have hci : ((c : Int) == (m : Int)) = true := by rw [hc]; simp
      have hcd : (c : Int) = (m : Int) := by omega
      have HGR := Lib.hid (HG.out wd bT bS A c HMD.out HP.out.iv HP.out.uc HP.out.dka HP.out.free HP.out.n8 (by rw [HN.out]; exact HN2.out))
      clear hc hcd
      go_upto_region 7 with (first
        | (go_at_call 28; refine HGR.out.mono ?_; rintro e w2 ⟨bS2, A2, rfl, hm2, hgp, hcg, hs2⟩; have HM2 := Lib.hid hm2; have HGP := Lib.hid hgp; have HC2 : Hid (Chg (fun b => b = bT ∨ b = bS) w0 w2) := (Lib.hid (Chg.tr HCD.out hcg (fun b hb => Or.inl (Or.inl hb)))); have HS2 : Hid (w0.heap.size ≤ bS2) := (Lib.hid (Nat.le_trans HCD.out.size hs2)); have HF2 := (Lib.hid (fun W (hW : Below w2.heap.size w2 W) => find_any d (HM2.out.later hW) (fun q z hz => (mem_cont.1 (HGP.out.pm.mem_iff.1 (mem_cont.2 ⟨q, hz⟩))).elim fun q2 hq2 => HP.out.dka q2 z hq2) (by rw [HGP.out.pm.length_eq, HGP.out.len]; have := HP.out.free; omega) (by rw [HGP.out.len, HN.out]; have := HN2.out; omega) HD.out)); rw [HMM.out] at HF2; have HBE2 := (Lib.hid (Below.refl w2.heap.size w2)); clear hm2 hgp hcg hs2)
        | (refine wpList_ld rfl 30 _ rfl _ rfl _ (HLD.out _ HC2.out) ?_)
        | (go_at_call 26; refine (HF2.out _ HBE2.out).mono ?_; rintro e w3 ⟨t2, fb2, rfl, htn2, hpre2, hor2, hb3⟩))
      obtain ⟨n2, hn2'⟩ : ∃ g, A2.length = g := ⟨_, rfl⟩
      have HNN := Lib.hid hn2'
      have hn28 : 8 ≤ n2 := by rw [← hn2', HGP.out.len]; have := HP.out.n8; omega
      have HM3' := Lib.hid (HM2.out.later hb3)
      have HC3 : Hid (Chg (fun b => b = bT ∨ b = bS) w0 w3) := Lib.hid (Chg.tr HC2.out (Chg.of_below (S := fun b => b = bT ∨ b = bS) hb3) (fun b hb => Or.inl hb))
      have HPRE2 := Lib.hid hpre2
      have hpl2 : posN A2 d t2 < n2 := by rw [← HNN.out]; exact posN_lt (by omega) d t2
      have HTN2 := Lib.hid htn2
      obtain ⟨p2, hpp2⟩ : ∃ p, posN A2 d t2 = p := ⟨_, rfl⟩
      have HPP2 := Lib.hid hpp2
      rw [hpp2] at hor2 hpl2
      rw [hpp2]
      have HPL2 : Hid (p2 < A2.length) := Lib.hid (by rw [HNN.out]; exact hpl2)
      have hpi2 : (p2 : Int) < (n2 : Int) := by omega
      have hp02 : (0 : Int) ≤ (p2 : Int) := by omega
      have hat2 : atS A2 p2 = none := by
        rcases hor2 with ⟨_, e⟩ | ⟨_, y, e, hyd⟩
        · exact e
        · exfalso
          have h1 := HGN.out
          rw [getN_none] at h1
          exact h1 y (HGP.out.pm.mem_iff.1 (mem_cont.2 ⟨p2, e⟩)) hyd
      have HTP := Lib.hid (HP.out.put_grow HGN.out HGP.out HPRE2.out HTN2.out (by rw [HPP2.out]; exact hat2) HD.out x HC.out HLL.out)
      rw [HPP2.out] at HTP
      have hf1 := HM3'.out.frozen 1
      obtain ⟨d0, d1⟩ := HM3'.out.cells
      rw [HNN.out] at d0
      clear hpre2 hpp2 htn2 hb3 hor2 hat2 hn2'
      go_upto_region 8 with fail
      have HM4 := Lib.hid (HM3'.out.count (c + 1))
      have HC4 : Hid (Chg (fun b => b = bT ∨ b = bS) w0 (World.setCell w3 ⟨bT, 1, none⟩ (.int .i64 ((c + 1 : Nat) : Int)))) := Lib.hid (Chg.tr HC3.out (HM3'.out.count_chg _) (fun b hb => hb.elim (fun e => Or.inl (Or.inl e)) (fun e => Or.inr (by rw [e]; exact HS2.out))))
      rw [show ((c + 1 : Nat) : Int) = (c : Int) + 1 from rfl] at HM4 HC4
      generalize World.setCell _ _ _ = w4 at *
      obtain ⟨hq0, _⟩ := HM4.out.cells
      rw [HNN.out] at hq0
      have HQ0 := Lib.hid hq0
      have HHS := Lib.hid fun W (hW : Below w4.heap.size w4 W) => And.intro (HM4.out.later hW) (Chg.tr HC4.out (Chg.of_below (S := fun b => b = bT ∨ b = bS) hW) (fun b hb => Or.inl hb))
      clear hq0
      refine wp_region_x (fun W : World => W.cell? ⟨bT, 0, none⟩ = some (.slice (some ⟨bS2, 0, none⟩) n2 n2) ∧ Below w4.heap.size w4 W) 9 (by kernel_rfl) ?_
      have hHeld : (fun W : World => W.cell? ⟨bT, 0, none⟩ = some (.slice (some ⟨bS2, 0, none⟩) n2 n2) ∧ Below w4.heap.size w4 W) _ := ⟨(show World.cell? (World.drew w4) _ = _ from HQ0.out), (Below.refl _ _).drew⟩
      refine takex 0 (v := ?vv22) rfl (by kernel_rfl) (by kernel_rfl) (by kernel_rfl) (by kernel_rfl) (by kernel_rfl) (fun _ _ _ h => h) (Or.inl ⟨by rfl, ?hy22⟩) hHeld ?rest22
      case hy22 => intro w hSw; (try dsimp only at hSw); go_simp; (try with_reducible rfl)
      (try simp only [Act.put, List.setIfInBounds_toArray, List.set_cons_zero, List.set_cons_succ])
      refine takex 1 (v := ?vv23) rfl (by kernel_rfl) (by kernel_rfl) (by kernel_rfl) (by kernel_rfl) (by kernel_rfl) (fun _ _ _ h => h) (Or.inl ⟨by rfl, ?hy23⟩) hHeld ?rest23
      case hy23 => intro w hSw; (try dsimp only at hSw); go_simp; (try with_reducible rfl)
      (try simp only [Act.put, List.setIfInBounds_toArray, List.set_cons_zero, List.set_cons_succ])
      refine takex 2 (v := ?vv24) rfl (by kernel_rfl) (by kernel_rfl) (by kernel_rfl) (by kernel_rfl) (by kernel_rfl) (fun _ _ _ h => h) (Or.inl ⟨by rfl, ?hy24⟩) hHeld ?rest24
      case hy24 => intro w hSw; (try dsimp only at hSw); go_simp; (try with_reducible rfl)
      (try simp only [Act.put, List.setIfInBounds_toArray, List.set_cons_zero, List.set_cons_succ])
      refine takex 3 (v := ?vv25) rfl (by kernel_rfl) (by kernel_rfl) (by kernel_rfl) (by kernel_rfl) (by kernel_rfl) (fun _ _ _ h => h) (Or.inl ⟨by rfl, ?hy25⟩) hHeld ?rest25
      case hy25 => intro w hSw; (try dsimp only at hSw); go_simp; (try with_reducible rfl)
      (try simp only [Act.put, List.setIfInBounds_toArray, List.set_cons_zero, List.set_cons_succ])
      refine takex 4 (v := ?vv26) rfl (by kernel_rfl) (by kernel_rfl) (by kernel_rfl) (by kernel_rfl) (by kernel_rfl) (fun _ _ _ h => h) (Or.inl ⟨by rfl, ?hy26⟩) hHeld ?rest26
      case hy26 => intro w hSw; (try dsimp only at hSw); go_simp; (try with_reducible rfl)
      (try simp only [Act.put, List.setIfInBounds_toArray, List.set_cons_zero, List.set_cons_succ])
      refine takex 5 rfl (by kernel_rfl) (by kernel_rfl) (by kernel_rfl) (by kernel_rfl) (by kernel_rfl) (fun _ _ _ h => h) (yieldsIf_ld (by rfl) 30 (.tmp 4) rfl (.pointer (some ⟨B, 0, none⟩)) rfl (.agg M) (fun W hW => HLD.out W (HHS.out W hW.2).2)) hHeld ?_
      (try simp only [Act.put, List.setIfInBounds_toArray, List.set_cons_zero, List.set_cons_succ])
      refine takex 6 (v := ?vv28) rfl (by kernel_rfl) (by kernel_rfl) (by kernel_rfl) (by kernel_rfl) (by kernel_rfl) (fun _ _ _ h => h) (Or.inl ⟨by rfl, ?hy28⟩) hHeld ?rest28
      case hy28 => intro w hSw; (try dsimp only at hSw); go_simp; (try with_reducible rfl)
      (try simp only [Act.put, List.setIfInBounds_toArray, List.set_cons_zero, List.set_cons_succ])
      refine takex 7 rfl (by kernel_rfl) (by kernel_rfl) (by kernel_rfl) (by kernel_rfl) (by kernel_rfl) (fun _ _ _ h => h) (yieldsIf_build (by rfl) 59 #[(0, .const (.bool true)), (1, .tmp 49), (2, .tmp 50)] rfl (encSl.f (some ⟨d, x⟩)).toArray (by first | exact HBL.out | (simp only [List.map_toArray, List.map_cons, List.map_nil]; exact HBL.out))) hHeld ?_
      (try simp only [Act.put, List.setIfInBounds_toArray, List.set_cons_zero, List.set_cons_succ])
      refine takex 8 (v := ?vv30) rfl (by kernel_rfl) (by kernel_rfl) (by kernel_rfl) (by kernel_rfl) (by kernel_rfl) (fun _ _ _ h => h) (Or.inl ⟨by rfl, ?hy30⟩) hHeld ?rest30
      case hy30 => intro w hSw; (try dsimp only at hSw); go_simp; (try with_reducible rfl)
      (try simp only [Act.put, List.setIfInBounds_toArray, List.set_cons_zero, List.set_cons_succ])
      refine lastx 9 rfl (by kernel_rfl) (by kernel_rfl) (fun K hK => ?_)
      rw [if_pos (by rfl)]
      have HTH := Lib.hid ((HHS.out _ hHeld.2).1.ir.there HPL2.out)
      have HMZ := Lib.hid ((HHS.out _ hHeld.2).1.store HPL2.out (some ⟨d, x⟩))
      have HCZ := Lib.hid (Chg.tr HB0.out (Chg.tr (HHS.out _ hHeld.2).2 ((HHS.out _ hHeld.2).1.store_chg HPL2.out (some ⟨d, x⟩)) (fun b hb => hb.elim (fun e => Or.inl (Or.inl e)) (fun e => Or.inr (by rw [e]; exact HS2.out)))) (fun b hb => Or.inl hb))
      refine wp_store_mid 59 _ _ rfl bS2 (p2 * 34) (encSl.f (some ⟨d, x⟩)).toArray rfl rfl (by rw [sl_sz]; exact HTH.out) (by rw [sl_sz]; exact size34) (all_oneCell_toArray (encSl.one _)) ?_
      clear HTH
      rw [List.toList_toArray]
      generalize World.setCells _ _ _ _ = wZ at *
      first
        | refine hK.out _ _ ?_
        | (go_wp2_with fail; refine hK.out _ _ ?_)
      clear hK K hHeld
      go_wp2
      refine bodyPost_end (results_none rfl _ _ _) rfl ?_
      exact ⟨_, rfl, ⟨bT, bS2, _, _, rfl, rfl, HMZ.out, HTP.out⟩, HCZ.out, fun b hb => hb.elim (fun e => Or.inl (Or.inl e)) (fun e => Or.inr (by rw [e]; exact Nat.le_trans HB0.out.size HS2.out))⟩
    · have HC : Hid (¬ 3 * A.length < 4 * (c + 1)) := Lib.hid (by rw [HN.out]; have := HM3.out; omega)
      have hci : ((c : Int) == (m : Int)) = false := by simp; omega
      have hf1 := HMD.out.frozen 1
      obtain ⟨d0, d1⟩ := HMD.out.cells
      rw [HN.out] at d0
      have HTP := Lib.hid (HP.out.put_new HPRE.out HTN.out (by rw [HPP.out]; exact HAT.out) HD.out x HC.out)
      rw [HPP.out] at HTP
      clear hc
      go_upto_region 8 with fail
      have HM4 := Lib.hid (HMD.out.count (c + 1))
      have HC4 : Hid (Chg (fun b => b = bT ∨ b = bS) w0 (World.setCell wd ⟨bT, 1, none⟩ (.int .i64 ((c + 1 : Nat) : Int)))) := Lib.hid (Chg.tr HCD.out (HMD.out.count_chg _) (fun b hb => Or.inl hb))
      rw [show ((c + 1 : Nat) : Int) = (c : Int) + 1 from rfl] at HM4 HC4
      generalize World.setCell _ _ _ = w4 at *
      obtain ⟨hq0, _⟩ := HM4.out.cells
      rw [HN.out] at hq0
      have HQ0 := Lib.hid hq0
      have HHS := Lib.hid fun W (hW : Below w4.heap.size w4 W) => And.intro (HM4.out.later hW) (Chg.tr HC4.out (Chg.of_below (S := fun b => b = bT ∨ b = bS) hW) (fun b hb => Or.inl hb))
      clear hq0
      refine wp_region_x (fun W : World => W.cell? ⟨bT, 0, none⟩ = some (.slice (some ⟨bS, 0, none⟩) n n) ∧ Below w4.heap.size w4 W) 9 (by kernel_rfl) ?_
      have hHeld : (fun W : World => W.cell? ⟨bT, 0, none⟩ = some (.slice (some ⟨bS, 0, none⟩) n n) ∧ Below w4.heap.size w4 W) _ := ⟨(show World.cell? (World.drew w4) _ = _ from HQ0.out), (Below.refl _ _).drew⟩
      refine takex 0 (v := ?vv12) rfl (by kernel_rfl) (by kernel_rfl) (by kernel_rfl) (by kernel_rfl) (by kernel_rfl) (fun _ _ _ h => h) (Or.inl ⟨by rfl, ?hy12⟩) hHeld ?rest12
      case hy12 => intro w hSw; (try dsimp only at hSw); go_simp; (try with_reducible rfl)
      (try simp only [Act.put, List.setIfInBounds_toArray, List.set_cons_zero, List.set_cons_succ])
      refine takex 1 (v := ?vv13) rfl (by kernel_rfl) (by kernel_rfl) (by kernel_rfl) (by kernel_rfl) (by kernel_rfl) (fun _ _ _ h => h) (Or.inl ⟨by rfl, ?hy13⟩) hHeld ?rest13
      case hy13 => intro w hSw; (try dsimp only at hSw); go_simp; (try with_reducible rfl)
      (try simp only [Act.put, List.setIfInBounds_toArray, List.set_cons_zero, List.set_cons_succ])
      refine takex 2 (v := ?vv14) rfl (by kernel_rfl) (by kernel_rfl) (by kernel_rfl) (by kernel_rfl) (by kernel_rfl) (fun _ _ _ h => h) (Or.inl ⟨by rfl, ?hy14⟩) hHeld ?rest14
      case hy14 => intro w hSw; (try dsimp only at hSw); go_simp; (try with_reducible rfl)
      (try simp only [Act.put, List.setIfInBounds_toArray, List.set_cons_zero, List.set_cons_succ])
      refine takex 3 (v := ?vv15) rfl (by kernel_rfl) (by kernel_rfl) (by kernel_rfl) (by kernel_rfl) (by kernel_rfl) (fun _ _ _ h => h) (Or.inl ⟨by rfl, ?hy15⟩) hHeld ?rest15
      case hy15 => intro w hSw; (try dsimp only at hSw); go_simp; (try with_reducible rfl)
      (try simp only [Act.put, List.setIfInBounds_toArray, List.set_cons_zero, List.set_cons_succ])
      refine takex 4 (v := ?vv16) rfl (by kernel_rfl) (by kernel_rfl) (by kernel_rfl) (by kernel_rfl) (by kernel_rfl) (fun _ _ _ h => h) (Or.inl ⟨by rfl, ?hy16⟩) hHeld ?rest16
      case hy16 => intro w hSw; (try dsimp only at hSw); go_simp; (try with_reducible rfl)
      (try simp only [Act.put, List.setIfInBounds_toArray, List.set_cons_zero, List.set_cons_succ])
      refine takex 5 rfl (by kernel_rfl) (by kernel_rfl) (by kernel_rfl) (by kernel_rfl) (by kernel_rfl) (fun _ _ _ h => h) (yieldsIf_ld (by rfl) 30 (.tmp 4) rfl (.pointer (some ⟨B, 0, none⟩)) rfl (.agg M) (fun W hW => HLD.out W (HHS.out W hW.2).2)) hHeld ?_
      (try simp only [Act.put, List.setIfInBounds_toArray, List.set_cons_zero, List.set_cons_succ])
      refine takex 6 (v := ?vv18) rfl (by kernel_rfl) (by kernel_rfl) (by kernel_rfl) (by kernel_rfl) (by kernel_rfl) (fun _ _ _ h => h) (Or.inl ⟨by rfl, ?hy18⟩) hHeld ?rest18
      case hy18 => intro w hSw; (try dsimp only at hSw); go_simp; (try with_reducible rfl)
      (try simp only [Act.put, List.setIfInBounds_toArray, List.set_cons_zero, List.set_cons_succ])
      refine takex 7 rfl (by kernel_rfl) (by kernel_rfl) (by kernel_rfl) (by kernel_rfl) (by kernel_rfl) (fun _ _ _ h => h) (yieldsIf_build (by rfl) 59 #[(0, .const (.bool true)), (1, .tmp 49), (2, .tmp 50)] rfl (encSl.f (some ⟨d, x⟩)).toArray (by first | exact HBL.out | (simp only [List.map_toArray, List.map_cons, List.map_nil]; exact HBL.out))) hHeld ?_
      (try simp only [Act.put, List.setIfInBounds_toArray, List.set_cons_zero, List.set_cons_succ])
      refine takex 8 (v := ?vv20) rfl (by kernel_rfl) (by kernel_rfl) (by kernel_rfl) (by kernel_rfl) (by kernel_rfl) (fun _ _ _ h => h) (Or.inl ⟨by rfl, ?hy20⟩) hHeld ?rest20
      case hy20 => intro w hSw; (try dsimp only at hSw); go_simp; (try with_reducible rfl)
      (try simp only [Act.put, List.setIfInBounds_toArray, List.set_cons_zero, List.set_cons_succ])
      refine lastx 9 rfl (by kernel_rfl) (by kernel_rfl) (fun K hK => ?_)
      rw [if_pos (by rfl)]
      have HTH := Lib.hid ((HHS.out _ hHeld.2).1.ir.there HPL.out)
      have HMZ := Lib.hid ((HHS.out _ hHeld.2).1.store HPL.out (some ⟨d, x⟩))
      have HCZ := Lib.hid (Chg.tr HB0.out (Chg.tr (HHS.out _ hHeld.2).2 ((HHS.out _ hHeld.2).1.store_chg HPL.out (some ⟨d, x⟩)) (fun b hb => Or.inl hb)) (fun b hb => Or.inl hb))
      refine wp_store_mid 59 _ _ rfl bS (p * 34) (encSl.f (some ⟨d, x⟩)).toArray rfl rfl (by rw [sl_sz]; exact HTH.out) (by rw [sl_sz]; exact size34) (all_oneCell_toArray (encSl.one _)) ?_
      clear HTH
      rw [List.toList_toArray]
      generalize World.setCells _ _ _ _ = wZ at *
      first
        | refine hK.out _ _ ?_
        | (go_wp2_with fail; refine hK.out _ _ ?_)
      clear hK K hHeld
      go_wp2
      refine bodyPost_end (results_none rfl _ _ _) rfl ?_
      exact ⟨_, rfl, ⟨bT, bS, _, _, rfl, rfl, HMZ.out, HTP.out⟩, HCZ.out, fun b hb => Or.inl hb⟩
  · have HTP := Lib.hid (HP.out.put_over HPRE.out HTN.out (by rw [HPP.out]; exact hor) hyd HD.out x)
    rw [HPP.out] at HTP
    clear hor
    go_quiet (fail)
    obtain ⟨wd, hwd⟩ : ∃ W, w1.drewN nq = W := ⟨_, rfl⟩
    have hbd : Below w1.heap.size w1 wd := by rw [← hwd]; exact below_drewN (Below.refl _ _) _
    have HMD := Lib.hid (HM1.out.later hbd)
    have HCD : Hid (Chg (fun b => b = bT ∨ b = bS) w0 wd) := Lib.hid (Chg.tr HC1.out (Chg.of_below (S := fun b => b = bT ∨ b = bS) hbd) (fun b hb => Or.inl hb))
    rw [hwd]
    obtain ⟨hq0, _⟩ := HMD.out.cells
    rw [HN.out] at hq0
    have HQ0 := Lib.hid hq0
    have HHS := Lib.hid fun W (hW : Below wd.heap.size wd W) => And.intro (HMD.out.later hW) (Chg.tr HCD.out (Chg.of_below (S := fun b => b = bT ∨ b = bS) hW) (fun b hb => Or.inl hb))
    clear hbd hwd hq0
    go_upto_region 8 with fail
    refine wp_region_x (fun W : World => W.cell? ⟨bT, 0, none⟩ = some (.slice (some ⟨bS, 0, none⟩) n n) ∧ Below wd.heap.size wd W) 9 (by kernel_rfl) ?_
    have hHeld : (fun W : World => W.cell? ⟨bT, 0, none⟩ = some (.slice (some ⟨bS, 0, none⟩) n n) ∧ Below wd.heap.size wd W) _ := ⟨(show World.cell? (World.drew wd) _ = _ from HQ0.out), (Below.refl _ _).drew⟩
    refine takex 0 (v := ?vv32) rfl (by kernel_rfl) (by kernel_rfl) (by kernel_rfl) (by kernel_rfl) (by kernel_rfl) (fun _ _ _ h => h) (Or.inl ⟨by rfl, ?hy32⟩) hHeld ?rest32
    case hy32 => intro w hSw; (try dsimp only at hSw); go_simp; (try with_reducible rfl)
    (try simp only [Act.put, List.setIfInBounds_toArray, List.set_cons_zero, List.set_cons_succ])
    refine takex 1 (v := ?vv33) rfl (by kernel_rfl) (by kernel_rfl) (by kernel_rfl) (by kernel_rfl) (by kernel_rfl) (fun _ _ _ h => h) (Or.inl ⟨by rfl, ?hy33⟩) hHeld ?rest33
    case hy33 => intro w hSw; (try dsimp only at hSw); go_simp; (try with_reducible rfl)
    (try simp only [Act.put, List.setIfInBounds_toArray, List.set_cons_zero, List.set_cons_succ])
    refine takex 2 (v := ?vv34) rfl (by kernel_rfl) (by kernel_rfl) (by kernel_rfl) (by kernel_rfl) (by kernel_rfl) (fun _ _ _ h => h) (Or.inl ⟨by rfl, ?hy34⟩) hHeld ?rest34
    case hy34 => intro w hSw; (try dsimp only at hSw); go_simp; (try with_reducible rfl)
    (try simp only [Act.put, List.setIfInBounds_toArray, List.set_cons_zero, List.set_cons_succ])
    refine takex 3 (v := ?vv35) rfl (by kernel_rfl) (by kernel_rfl) (by kernel_rfl) (by kernel_rfl) (by kernel_rfl) (fun _ _ _ h => h) (Or.inl ⟨by rfl, ?hy35⟩) hHeld ?rest35
    case hy35 => intro w hSw; (try dsimp only at hSw); go_simp; (try with_reducible rfl)
    (try simp only [Act.put, List.setIfInBounds_toArray, List.set_cons_zero, List.set_cons_succ])
    refine takex 4 (v := ?vv36) rfl (by kernel_rfl) (by kernel_rfl) (by kernel_rfl) (by kernel_rfl) (by kernel_rfl) (fun _ _ _ h => h) (Or.inl ⟨by rfl, ?hy36⟩) hHeld ?rest36
    case hy36 => intro w hSw; (try dsimp only at hSw); go_simp; (try with_reducible rfl)
    (try simp only [Act.put, List.setIfInBounds_toArray, List.set_cons_zero, List.set_cons_succ])
    refine takex 5 rfl (by kernel_rfl) (by kernel_rfl) (by kernel_rfl) (by kernel_rfl) (by kernel_rfl) (fun _ _ _ h => h) (yieldsIf_ld (by rfl) 30 (.tmp 4) rfl (.pointer (some ⟨B, 0, none⟩)) rfl (.agg M) (fun W hW => HLD.out W (HHS.out W hW.2).2)) hHeld ?_
    (try simp only [Act.put, List.setIfInBounds_toArray, List.set_cons_zero, List.set_cons_succ])
    refine takex 6 (v := ?vv38) rfl (by kernel_rfl) (by kernel_rfl) (by kernel_rfl) (by kernel_rfl) (by kernel_rfl) (fun _ _ _ h => h) (Or.inl ⟨by rfl, ?hy38⟩) hHeld ?rest38
    case hy38 => intro w hSw; (try dsimp only at hSw); go_simp; (try with_reducible rfl)
    (try simp only [Act.put, List.setIfInBounds_toArray, List.set_cons_zero, List.set_cons_succ])
    refine takex 7 rfl (by kernel_rfl) (by kernel_rfl) (by kernel_rfl) (by kernel_rfl) (by kernel_rfl) (fun _ _ _ h => h) (yieldsIf_build (by rfl) 59 #[(0, .const (.bool true)), (1, .tmp 49), (2, .tmp 50)] rfl (encSl.f (some ⟨d, x⟩)).toArray (by first | exact HBL.out | (simp only [List.map_toArray, List.map_cons, List.map_nil]; exact HBL.out))) hHeld ?_
    (try simp only [Act.put, List.setIfInBounds_toArray, List.set_cons_zero, List.set_cons_succ])
    refine takex 8 (v := ?vv40) rfl (by kernel_rfl) (by kernel_rfl) (by kernel_rfl) (by kernel_rfl) (by kernel_rfl) (fun _ _ _ h => h) (Or.inl ⟨by rfl, ?hy40⟩) hHeld ?rest40
    case hy40 => intro w hSw; (try dsimp only at hSw); go_simp; (try with_reducible rfl)
    (try simp only [Act.put, List.setIfInBounds_toArray, List.set_cons_zero, List.set_cons_succ])
    refine lastx 9 rfl (by kernel_rfl) (by kernel_rfl) (fun K hK => ?_)
    rw [if_pos (by rfl)]
    have HTH := Lib.hid ((HHS.out _ hHeld.2).1.ir.there HPL.out)
    have HMZ := Lib.hid ((HHS.out _ hHeld.2).1.store HPL.out (some ⟨d, x⟩))
    have HCZ := Lib.hid (Chg.tr HB0.out (Chg.tr (HHS.out _ hHeld.2).2 ((HHS.out _ hHeld.2).1.store_chg HPL.out (some ⟨d, x⟩)) (fun b hb => Or.inl hb)) (fun b hb => Or.inl hb))
    refine wp_store_mid 59 _ _ rfl bS (p * 34) (encSl.f (some ⟨d, x⟩)).toArray rfl rfl (by rw [sl_sz]; exact HTH.out) (by rw [sl_sz]; exact size34) (all_oneCell_toArray (encSl.one _)) ?_
    clear HTH
    rw [List.toList_toArray]
    generalize World.setCells _ _ _ _ = wZ at *
    first
      | refine hK.out _ _ ?_
      | (go_wp2_with fail; refine hK.out _ _ ?_)
    clear hK K hHeld
    go_wp2
    refine bodyPost_end (results_none rfl _ _ _) rfl ?_
    exact ⟨_, rfl, ⟨bT, bS, _, _, rfl, rfl, HMZ.out, HTP.out⟩, HCZ.out, fun b hb => Or.inl hb⟩
end Go.Proofs.Ytfdmpbhgejahaaa

namespace Go.Proofs.Ytfdmpbhgejahaaa
set_option linter.unusedVariables false
open Go.RowKit Go.Lib

theorem tm_set0 {W : World} {bT bS bN : Nat} {A B : Sl} {c : Nat} (h : Tm W bT bS A c) (hB : Ir encSl W bN B) (hne : bT ≠ bN) : Tm (W.setCell ⟨bT, 0, none⟩ (.slice (some ⟨bN, 0, none⟩) B.length B.length)) bT bN B c := by
  rw [setCell_eq_setRow W bT 0 _ _ _ _ h.hd]
  exact ⟨setRow_heap W bT _ _ _ _ h.hd, hB.keep (setRow_other W bT bN _ (fun e => hne e.symm)), hne⟩
theorem tm_set0_chg {W : World} {bT bS : Nat} {A : Sl} {c : Nat} (h : Tm W bT bS A c) (v : Value) : Chg (fun b => b = bT) W (W.setCell ⟨bT, 0, none⟩ v) ∧ ∀ k, k ≠ bT → (W.setCell ⟨bT, 0, none⟩ v).heap[k]? = W.heap[k]? := by
  rw [setCell_eq_setRow W bT 0 _ _ _ _ h.hd]
  exact ⟨⟨setRow_os _ _ _, setRow_tape _ _ _, setRow_output _ _ _, by rw [setRow_size]; exact Nat.le_refl _, fun k _ hk => setRow_other W bT k _ hk⟩, fun k hk => setRow_other W bT k _ hk⟩
/-- amid the loop: the old row, the new one -/
structure GrI (w W : World) (bT bS bN : Nat) (A : Sl) (c k : Nat) (B : Sl) : Prop where
  tm : Tm W bT bN B c
  old : Ir encSl W bS A
  nb : w.heap.size ≤ bN
  ne : bN ≠ bS
  ch : Chg (fun b => b = bT) w W
  iv : Inv B
  pm : (cont B).Perm (cont (A.take k))
  ln : B.length = 2 * A.length
theorem GrI.later {w W V : World} {bT bS bN : Nat} {A : Sl} {c k : Nat} {B : Sl} (h : GrI w W bT bS bN A c k B) (hb : Below W.heap.size W V) : GrI w V bT bS bN A c k B :=
  ⟨h.tm.later hb, h.old.later hb, h.nb, h.ne, Chg.tr h.ch (Chg.of_below (S := fun b => b = bT) hb) (fun b e => Or.inl e), h.iv, h.pm, h.ln⟩
theorem GrI.put {w W : World} {bT bS bN : Nat} {A : Sl} {c k t : Nat} {B : Sl} {x : Pr} (h : GrI w W bT bS bN A c k B) (hu : Uniq (cont A)) (hx : atS A k = some x) (hp : Pre B x.dg t) (ht : t < B.length) (hn : atS B (posN B x.dg t) = none) :
    GrI w (W.setCells bN (posN B x.dg t * 34) (encSl.f (some x))) bT bS bN A c (k + 1) (B.set (posN B x.dg t) (some x)) := by
  obtain ⟨g1, g2⟩ := grow_step hu hx h.iv h.pm hp ht hn
  have hpl : posN B x.dg t < B.length := posN_lt (by omega) _ _
  have hc := h.tm.store_chg hpl (some x)
  refine ⟨h.tm.store hpl (some x), h.old.keep (h.tm.ir.storeOther hpl (some x) bS (fun e => h.ne e.symm)), h.nb, h.ne, Chg.tr h.ch hc (fun b e => e.elim Or.inl (fun e => Or.inr (by rw [e]; exact h.nb))), g1, g2, by rw [List.length_set]; exact h.ln⟩
theorem GrI.skip {w W : World} {bT bS bN : Nat} {A : Sl} {c k : Nat} {B : Sl} (h : GrI w W bT bS bN A c k B) (hk : k < A.length) (hn : atS A k = none) : GrI w W bT bS bN A c (k + 1) B :=
  ⟨h.tm, h.old, h.nb, h.ne, h.ch, h.iv, by rw [grow_skip hk hn]; exact h.pm, h.ln⟩
theorem sl_load {W : World} {b : Nat} {A : Sl} (h : Ir encSl W b A) {p : Nat} (hp : p < A.length) : (Instr.loadAt 59 (.pointer (some ⟨b, p * 34, none⟩))).run Try.prog W = .ok (.agg (encSl.f (atS A p)).toArray) W := by
  have h1 := h.range hp
  have e : A.getD p encSl.d = atS A p := by rw [List.getD_eq_getElem?_getD, atS_get hp]; rfl
  rw [e] at h1
  have h2 := run_loadAt_mid (P := Try.prog) W b (p * 34) 59 _ _ h1 Try.underlying59 rfl (by rw [encSl.len]; exact size34)
  exact h2
set_option maxRecDepth 100000 in
set_option maxHeartbeats 4000000 in
theorem grow_any : GrowOk := by
  intro w bT bS A c hm hiv huq hdk hfr h8 hn4
  obtain ⟨i0, hi, hz0, hz1, hz2⟩ := info_parts infoSl
  obtain ⟨n, hn⟩ : ∃ n, A.length = n := ⟨_, rfl⟩
  obtain ⟨n2, hn2⟩ : ∃ n2, 2 * n = n2 := ⟨_, rfl⟩
  obtain ⟨c0, c1⟩ := hm.cells
  have HM := Lib.hid hm
  have HU := Lib.hid huq
  have HDK := Lib.hid hdk
  have HFR := Lib.hid hfr
  have HN := Lib.hid hn
  have HN2 := Lib.hid hn2
  rw [hn] at c0 h8 hn4
  have hwa : IntKind.i64.wrap (2 * (n : Int)) = (n2 : Int) := by rw [IntKind.wrap_i64]; omega
  have hb48 : i0.bytes * n2 ≤ 281474976710656 := by rw [hz2]; omega
  have hml : n2 ≤ maxLen := by unfold maxLen; omega
  have hf0 : ∀ W, Below w.heap.size w W → W.frozen? ⟨bT, 0, none⟩ = false := fun W hW => (HM.out.later hW).frozen 0
  have HF0 := Lib.hid hf0
  obtain ⟨bN, hbN⟩ : ∃ x, w.heap.size = x := ⟨_, rfl⟩
  have HBN := Lib.hid hbN
  have h28 : 0 < n2 := by omega
  clear hm hiv huq hdk hfr hn hf0
  go_enter Try.func28, Try.ntmps28
  go_wp2_with (at_make; refine wpList_make_full _ rfl _ _ 55 rfl w.heap.size encSl.t i0 (.agg (encSl.f none).toArray) 34 Try.underlying55 hi hz0 hz1 _ _ _ _ n2 rfl rfl rfl rfl hb48 hml (Nat.le_refl _) ?_; intro w1 hrow1 hg1; have HR1 : Hid (Ir encSl w1 w.heap.size (List.replicate n2 none)) := Lib.hid (Ir.made (base := w.heap.size) h28 hrow1); have HB1 : Hid (Below w.heap.size w w1) := Lib.hid (below_none hg1); obtain ⟨q0, q1⟩ := (HM.out.later HB1.out).cells; have qf0 := HF0.out w1 HB1.out; clear hrow1)
  have HG0 : Hid (GrI w (w1.setCell ⟨bT, 0, none⟩ (.slice (some ⟨bN, 0, none⟩) n2 n2)) bT bS bN A c 0 (List.replicate n2 none)) := Lib.hid (by
    have hm1 := HM.out.later HB1.out
    have hl1 := HM.out.lt
    have hl2 := HM.out.ir.lt
    have hr1 : Ir encSl w1 bN (List.replicate n2 none) := by rw [← HBN.out]; exact HR1.out
    have h1 := tm_set0 hm1 hr1 (by rw [HBN.out] at hl1; omega)
    rw [List.length_replicate] at h1
    obtain ⟨h2, h3⟩ := tm_set0_chg hm1 (.slice (some ⟨bN, 0, none⟩) n2 n2)
    refine ⟨h1, hm1.ir.keep (h3 _ (fun e => hm1.ne e.symm)), by rw [HBN.out]; exact Nat.le_refl _, by rw [HBN.out] at hl2; omega, Chg.tr (Chg.of_below (S := fun b => b = bT) HB1.out) h2 (fun b e => Or.inl e), inv_fresh _, by rw [cont_fresh]; exact List.Perm.refl _, by rw [List.length_replicate, HN.out, HN2.out]⟩)
  generalize World.setCell _ _ _ = w2 at *
  clear q0 q1 qf0 c0 c1 hi hz0 hz1 hz2 hb48 HR1
  go_wp2
  go_loopw [20] (fun iv wr => ∃ (k : Nat) (B : Sl), k ≤ n ∧ iv = .int .i64 (k : Int) ∧ Hid (GrI w wr bT bS bN A c k B)) (fun iv _ => n - (intZ iv).toNat)
  case atStart => exact ⟨0, _, by omega, rfl, HG0⟩
  case round =>
    obtain ⟨k, B, hkn, rfl, HI⟩ := hrel
    by_cases hlt : k < n
    · have hki : (k : Int) < (n : Int) := by omega
      have hk0 : (0 : Int) ≤ (k : Int) := by omega
      have HKA : Hid (k < A.length) := Lib.hid (by rw [HN.out]; exact hlt)
      have HLD := Lib.hid (sl_load HI.out.old HKA.out)
      obtain ⟨z, hz⟩ : ∃ z, atS A k = z := ⟨_, rfl⟩
      have HZ := Lib.hid hz
      rw [hz] at HLD
      obtain ⟨bV, hbV⟩ : ∃ g, wr.heap.size = g := ⟨_, rfl⟩
      have HBV := Lib.hid hbV
      have HYZ : Hid ((wr.alloc (.cells (encSl.f none).toArray 59)).heap[bV]? = some (.cells (encSl.f none).toArray 59 (0, 0))) := Lib.hid (by rw [← hbV]; exact heap_alloc_new _ _)
      have HS1 : Hid ((Try.prog.info? 59).map (·.size) = some (encSl.f z).toArray.size) := Lib.hid (by rw [sl_sz]; exact size34)
      have HS2 : Hid ((encSl.f none).toArray.size = (encSl.f z).toArray.size) := Lib.hid (by rw [sl_sz, sl_sz])
      clear hz
      go_upto_region 5 with (first
        | (refine wpList_ld rfl 59 _ rfl _ rfl _ HLD.out ?_)
        | (refine wpList_store_row rfl 59 _ _ rfl bV _ rfl rfl 59 _ HYZ.out HS1.out HS2.out (all_oneCell_toArray (encSl.one _)) ?_; generalize hw3 : World.setRow _ _ _ = w3))
      have hrow3 : w3.heap[bV]? = some (.cells (encSl.f z).toArray 59 (0, 0)) := by rw [← hw3]; exact setRow_heap _ _ _ _ _ _ HYZ.out
      have hb3 : Below wr.heap.size wr w3 := by rw [← hw3]; exact below_setRow8 ((Below.refl _ _).alloc (Nat.le_refl _) _) _ _ (by rw [HBV.out]; exact Nat.le_refl _)
      have HI3 := Lib.hid (HI.out.later hb3)
      have HV : Hid (Ir encSl w3 bV [z]) := Lib.hid (by
        unfold Ir
        rw [hrow3]
        show _ = some (Obj.cells (encSl.f z ++ []).toArray 59 (0, 0))
        rw [List.append_nil])
      clear hw3 hrow3 hb3 HYZ HS1 HS2 HLD HI hbV
      cases z with
      | none =>
        have x0 := sl_none HV.out (p := 0) (by simp) rfl
        rw [Nat.zero_mul] at x0
        go_wp2
        exact ⟨⟨k + 1, B, by omega, by go_num, Lib.hid (HI3.out.skip HKA.out HZ.out)⟩, by simp [intZ] <;> omega⟩
      | some x =>
        have hdx := HDK.out k x HZ.out
        have HDX := Lib.hid hdx
        obtain ⟨x0, xr, _⟩ := sl_some HV.out (p := 0) (x := x) rfl hdx.1
        rw [Nat.zero_mul] at x0 xr
        have hvl := HV.out.lt
        have HL9 : Hid (∀ W, Below w3.heap.size w3 W → (Instr.loadAt 30 (.pointer (some ⟨bV, 1, none⟩))).run Try.prog W = .ok (.agg (bcs x.dg)) W) := Lib.hid fun W hW => sl_dig (rngS_later xr hW) hdx.1
        have HL11 : Hid (∀ W, Below w3.heap.size w3 W → (Instr.loadAt 59 (.pointer (some ⟨bV, 0, none⟩))).run Try.prog W = .ok (.agg (encSl.f (some x)).toArray) W) := Lib.hid fun W hW => sl_load (HV.out.later hW) (p := 0) (by simp)
        have HBL : Hid (B.length = n2) := Lib.hid (by rw [HI3.out.ln, HN.out, HN2.out])
        have hcl : (cont B).length ≤ (cont A).length := by rw [HI3.out.pm.length_eq]; exact cont_take_le A k
        have HFI := Lib.hid fun W (hW : Below w3.heap.size w3 W) => find_any x.dg (HI3.out.later hW).tm (fun q y hy => by
          have h1 := HI3.out.pm.mem_iff.1 (mem_cont.2 ⟨q, hy⟩)
          have h2 : y ∈ cont A := by
            rw [← List.take_append_drop k A, cont_append]
            exact List.mem_append_left _ h1
          obtain ⟨q2, hq2⟩ := mem_cont.1 h2
          exact HDK.out q2 y hq2) (by rw [HBL.out]; have := HFR.out; have := HN.out; have := HN2.out; omega) (by rw [HBL.out]; have := HN2.out; omega) hdx
        obtain ⟨M, hM⟩ : ∃ M, bcs x.dg = M := ⟨_, rfl⟩
        rw [hM] at HL9 HFI
        obtain ⟨R, hR⟩ : ∃ R, (encSl.f (some x)).toArray = R := ⟨_, rfl⟩
        have HR := Lib.hid hR
        have HBE := Lib.hid (Below.refl w3.heap.size w3)
        rw [hR] at HL11
        clear hM hR xr hdx hcl hvl
        go_upto_region 7 with (first
          | (refine wpList_ld rfl 30 _ rfl _ rfl _ (HL9.out _ HBE.out) ?_)
          | (go_at_call 26; refine (HFI.out _ HBE.out).mono ?_; rintro e w5 ⟨t, fb, rfl, htn, hpre, hor, hb35⟩))
        have HI5 := Lib.hid (HI3.out.later hb35)
        obtain ⟨q0, q1⟩ := HI5.out.tm.cells
        rw [HBL.out] at q0
        have hpl : posN B x.dg t < n2 := by rw [← HBL.out]; exact posN_lt (by omega) _ _
        have hat : atS B (posN B x.dg t) = none := by
          rcases hor with ⟨_, e⟩ | ⟨_, y, e, hyd⟩
          · exact e
          · exact absurd hyd (grow_no HU.out HZ.out HI3.out.pm e)
        have HTN := Lib.hid htn
        have HPRE := Lib.hid hpre
        have HAT := Lib.hid hat
        obtain ⟨p, hpp⟩ : ∃ p, posN B x.dg t = p := ⟨_, rfl⟩
        have HPP := Lib.hid hpp
        rw [hpp] at hpl
        rw [hpp]
        have hpi : (p : Int) < (n2 : Int) := by omega
        have hp0 : (0 : Int) ≤ (p : Int) := by omega
        have HPL : Hid (p < B.length) := Lib.hid (by rw [HBL.out]; exact hpl)
        have HL12 : Hid (∀ W, Below w5.heap.size w5 W → (Instr.loadAt 59 (.pointer (some ⟨bV, 0, none⟩))).run Try.prog W = .ok (.agg R) W) := Lib.hid fun W hW => HL11.out W (below_step hb35 hW)
        have HI5L := Lib.hid fun W (hW : Below w5.heap.size w5 W) => HI5.out.later hW
        have HC0 := Lib.hid q0
        clear htn hpre hat hpp hor hb35 q1 x0
        clear q0
        refine wp_region_x (fun W : World => W.cell? ⟨bT, 0, none⟩ = some (.slice (some ⟨bN, 0, none⟩) n2 n2) ∧ Below w5.heap.size w5 W) 7 (by kernel_rfl) ?_
        have hHeld : (fun W : World => W.cell? ⟨bT, 0, none⟩ = some (.slice (some ⟨bN, 0, none⟩) n2 n2) ∧ Below w5.heap.size w5 W) _ := ⟨(show World.cell? (World.drew w5) _ = _ from HC0.out), (Below.refl _ _).drew⟩
        refine takex 0 (v := ?vv1) rfl (by kernel_rfl) (by kernel_rfl) (by kernel_rfl) (by kernel_rfl) (by kernel_rfl) (fun _ _ _ h => h) (Or.inl ⟨by rfl, ?hy1⟩) hHeld ?rest1
        case hy1 => intro w hSw; (try dsimp only at hSw); go_simp; (try with_reducible rfl)
        (try simp only [Act.put, List.setIfInBounds_toArray, List.set_cons_zero, List.set_cons_succ])
        refine takex 1 (v := ?vv2) rfl (by kernel_rfl) (by kernel_rfl) (by kernel_rfl) (by kernel_rfl) (by kernel_rfl) (fun _ _ _ h => h) (Or.inl ⟨by rfl, ?hy2⟩) hHeld ?rest2
        case hy2 => intro w hSw; (try dsimp only at hSw); go_simp; (try with_reducible rfl)
        (try simp only [Act.put, List.setIfInBounds_toArray, List.set_cons_zero, List.set_cons_succ])
        refine takex 2 (v := ?vv3) rfl (by kernel_rfl) (by kernel_rfl) (by kernel_rfl) (by kernel_rfl) (by kernel_rfl) (fun _ _ _ h => h) (Or.inl ⟨by rfl, ?hy3⟩) hHeld ?rest3
        case hy3 => intro w hSw; (try dsimp only at hSw); go_simp; (try with_reducible rfl)
        (try simp only [Act.put, List.setIfInBounds_toArray, List.set_cons_zero, List.set_cons_succ])
        refine takex 3 (v := ?vv4) rfl (by kernel_rfl) (by kernel_rfl) (by kernel_rfl) (by kernel_rfl) (by kernel_rfl) (fun _ _ _ h => h) (Or.inl ⟨by rfl, ?hy4⟩) hHeld ?rest4
        case hy4 => intro w hSw; (try dsimp only at hSw); go_simp; (try with_reducible rfl)
        (try simp only [Act.put, List.setIfInBounds_toArray, List.set_cons_zero, List.set_cons_succ])
        refine takex 4 (v := ?vv5) rfl (by kernel_rfl) (by kernel_rfl) (by kernel_rfl) (by kernel_rfl) (by kernel_rfl) (fun _ _ _ h => h) (Or.inl ⟨by rfl, ?hy5⟩) hHeld ?rest5
        case hy5 => intro w hSw; (try dsimp only at hSw); go_simp; (try with_reducible rfl)
        (try simp only [Act.put, List.setIfInBounds_toArray, List.set_cons_zero, List.set_cons_succ])
        refine takex 5 rfl (by kernel_rfl) (by kernel_rfl) (by kernel_rfl) (by kernel_rfl) (by kernel_rfl) (fun _ _ _ h => h) (yieldsIf_ld (by rfl) 59 (.tmp 4) rfl (.pointer (some ⟨bV, 0, none⟩)) rfl (.agg R) (fun W hW => HL12.out W hW.2)) hHeld ?_
        (try simp only [Act.put, List.setIfInBounds_toArray, List.set_cons_zero, List.set_cons_succ])
        refine takex 6 (v := ?vv7) rfl (by kernel_rfl) (by kernel_rfl) (by kernel_rfl) (by kernel_rfl) (by kernel_rfl) (fun _ _ _ h => h) (Or.inl ⟨by rfl, ?hy7⟩) hHeld ?rest7
        case hy7 => intro w hSw; (try dsimp only at hSw); go_simp; (try with_reducible rfl)
        (try simp only [Act.put, List.setIfInBounds_toArray, List.set_cons_zero, List.set_cons_succ])
        refine lastx 7 rfl (by kernel_rfl) (by kernel_rfl) (fun K hK => ?_)
        rw [if_pos (by rfl)]
        have HI6 := Lib.hid (HI5L.out _ hHeld.2)
        have HTH := Lib.hid (HI6.out.tm.ir.there HPL.out)
        have HGZ := Lib.hid (HI6.out.put HU.out HZ.out HPRE.out HTN.out HAT.out)
        rw [HPP.out] at HGZ
        refine wp_store_mid 59 _ _ rfl bN (p * 34) R rfl rfl (by rw [← HR.out, sl_sz]; exact HTH.out) (by rw [← HR.out, sl_sz]; exact size34) (by rw [← HR.out]; exact all_oneCell_toArray (encSl.one _)) ?_
        rw [← HR.out, List.toList_toArray]
        clear HTH HI6
        generalize World.setCells _ _ _ _ = wZ at *
        first
          | refine hK.out _ _ ?_
          | (go_wp2_with fail; refine hK.out _ _ ?_)
        clear hK K hHeld
        go_wp2
        exact ⟨⟨k + 1, _, by omega, by go_num, HGZ⟩, by simp [intZ] <;> omega⟩
    · obtain rfl : k = n := by omega
      go_wp2
      refine bodyPost_end (results_none rfl _ _ _) rfl ?_
      exact ⟨bN, B, rfl, HI.out.tm, ⟨HI.out.iv, by have h1 := HI.out.pm; rwa [List.take_of_length_le (by rw [HN.out]; exact Nat.le_refl _)] at h1, HI.out.ln⟩, HI.out.ch, HI.out.nb⟩
end Go.Proofs.Ytfdmpbhgejahaaa

namespace Go.Proofs.Ytfdmpbhgejahaaa
set_option linter.unusedVariables false
open Go.RowKit Go.Lib

/-- amid release's loop: the row M as it lies, the hole at h still with what stood there -/
structure ReI (w W : World) (bT bS : Nat) (M : Sl) (c b h k k0 n : Nat) (C : List Pr) : Prop where
  tm : Tm W bT bS M c
  ln : M.length = n
  iv : InvH (M.set (ofs M b h) none) b h k k0
  pm : (cont (M.set (ofs M b h) none)).Perm C
  ch : Chg (fun b => b = bT ∨ b = bS) w W
theorem ReI.later {w W V : World} {bT bS : Nat} {M : Sl} {c b h k k0 n : Nat} {C : List Pr} (H : ReI w W bT bS M c b h k k0 n C) (hb : Below W.heap.size W V) : ReI w V bT bS M c b h k k0 n C :=
  ⟨H.tm.later hb, H.ln, H.iv, H.pm, Chg.tr H.ch (Chg.of_below (S := fun b => b = bT ∨ b = bS) hb) (fun b e => Or.inl e)⟩
theorem ReI.lt {w W : World} {bT bS : Nat} {M : Sl} {c b h k k0 n : Nat} {C : List Pr} (H : ReI w W bT bS M c b h k k0 n C) : h < k ∧ k ≤ k0 ∧ k0 < n := by
  have h1 := H.iv.hk
  have h2 := H.iv.iv.kk
  have h3 := H.iv.iv.lt0
  rw [List.length_set, H.ln] at h3
  exact ⟨h1, h2, h3⟩
theorem ReI.at {w W : World} {bT bS : Nat} {M : Sl} {c b h k k0 n : Nat} {C : List Pr} (H : ReI w W bT bS M c b h k k0 n C) : atS (M.set (ofs M b h) none) (ofs M b k) = atS M (ofs M b k) ∧ ofs M b k ≠ ofs M b h ∧ ofs M b h < n := by
  obtain ⟨h1, h2, h3⟩ := H.lt
  have h0 : 0 < M.length := by rw [H.ln]; omega
  have hne : ofs M b k ≠ ofs M b h := fun e => by
    have := ofs_inj (by rw [H.ln]; omega) (by rw [H.ln]; omega) e
    omega
  refine ⟨by rw [atS_set _ (ofs_lt h0 b h), if_neg hne], hne, by rw [← H.ln]; exact ofs_lt h0 b h⟩
/-- behind the loop: the hole emptied -/
theorem ReI.done {w W : World} {bT bS : Nat} {M : Sl} {c b h k k0 n : Nat} {C : List Pr} (H : ReI w W bT bS M c b h k k0 n C) (hn : atS M (ofs M b k) = none) : Inv (M.set (ofs M b h) none) := by
  have h1 := H.at.1
  rw [hn] at h1
  have e : ofs (M.set (ofs M b h) none) b k = ofs M b k := ofs_set _ _ _ _ _
  exact InvK.done (k := k) (k0 := k) ⟨Nat.lt_of_le_of_lt H.iv.iv.kk H.iv.iv.lt0, Nat.le_refl _, by rw [e]; exact h1, H.iv.iv.way⟩ rfl
theorem ReI.keep {w W : World} {bT bS : Nat} {M : Sl} {c b h k k0 n u : Nat} {C : List Pr} {x : Pr} (H : ReI w W bT bS M c b h k k0 n C) (hx : atS M (ofs M b k) = some x) (hu : u < n) (hp : ofs M b k = posN M x.dg u) (hd : u < k - h) : ReI w W bT bS M c b h (k + 1) k0 n C :=
  ⟨H.tm, H.ln, H.iv.keep (u := u) (x := x) (by rw [ofs_set, H.at.1]; exact hx) (by rw [List.length_set, H.ln]; exact hu) (by rw [ofs_set, posN_set]; exact hp) hd, H.pm, H.ch⟩
theorem set_hole {M : Sl} {p q : Nat} (x : Option Pr) (h : p ≠ q) : ((M.set p none).set q none).set p x = (M.set p x).set q none := by
  rw [List.set_comm none none h, List.set_set, List.set_comm none x (fun e => h e.symm)]
theorem ReI.move {w W : World} {bT bS : Nat} {M : Sl} {c b h k k0 n u : Nat} {C : List Pr} {x : Pr} (H : ReI w W bT bS M c b h k k0 n C) (hx : atS M (ofs M b k) = some x) (hu : u < n) (hp : ofs M b k = posN M x.dg u) (hd : k - h ≤ u) :
    ReI w (W.setCells bS (ofs M b h * 34) (encSl.f (some x))) bT bS (M.set (ofs M b h) (some x)) c b k (k + 1) k0 n C := by
  obtain ⟨a1, a2, a3⟩ := H.at
  have hpl : ofs M b h < M.length := by rw [H.ln]; exact a3
  have hkl : ofs M b k < M.length := ofs_lt (by omega) _ _
  have hxx : atS (M.set (ofs M b h) none) (ofs M b k) = some x := by rw [a1]; exact hx
  have h1 := H.iv.move (u := u) (x := x) (by rw [ofs_set]; exact hxx) (by rw [List.length_set, H.ln]; exact hu) (by rw [ofs_set, posN_set]; exact hp) hd
  rw [ofs_set, ofs_set, set_hole _ (fun e => a2 e.symm)] at h1
  have h2 : (cont ((M.set (ofs M b h) (some x)).set (ofs M b k) none)).Perm C := by
    rw [← set_hole _ (fun e => a2 e.symm)]
    exact (cont_move hxx (by rw [List.length_set]; exact hpl) (by
      rw [atS_set _ (by rw [List.length_set]; exact hkl), if_neg (fun e => a2 e.symm), atS_set _ hpl, if_pos rfl])).trans H.pm
  refine ⟨H.tm.store hpl (some x), by rw [List.length_set]; exact H.ln, by rw [ofs_set]; exact h1, by rw [ofs_set]; exact h2, Chg.tr H.ch (H.tm.store_chg hpl (some x)) (fun b e => Or.inl e)⟩
theorem ReI.start {w W : World} {bT bS : Nat} {M : Sl} {c b n : Nat} {y : Pr} (h : Tm W bT bS M c) (hc : Chg (fun b => b = bT ∨ b = bS) w W) (hn : M.length = n) (hI : Inv M) (hb : atS M b = some y) (hf : (cont M).length < M.length) : ∃ k0, ReI w W bT bS M c b 0 1 k0 n (cont (M.set b none)) := by
  obtain ⟨k0, hk0⟩ := InvK.start hI hb hf
  have hbl := atS_lt hb
  exact ⟨k0, h, hn, by rw [ofs_zero hbl]; exact InvH.start hbl hk0, by rw [ofs_zero hbl], hc⟩
/-- what release leaves -/
def RelQ (w : World) (bT bS : Nat) (M : Sl) (c b : Nat) (e : Ending) (w' : World) : Prop :=
  ∃ A, e = .returned (.tuple #[]) ∧ Tm w' bT bS A c ∧ Inv A ∧ A.length = M.length ∧ (cont A).Perm (cont (M.set b none)) ∧ Chg (fun b => b = bT ∨ b = bS) w w'
set_option maxRecDepth 100000 in
set_option maxHeartbeats 4000000 in
theorem release_any {w : World} {bT bS : Nat} {M : Sl} {c b : Nat} {y : Pr} (hm : Tm w bT bS M c) (hiv : Inv M) (hb : atS M b = some y) (hdk : ∀ z ∈ cont M, dok z.dg) (huq : Uniq (cont M)) (hfr : (cont M).length < M.length) (hn4 : M.length ≤ 4194304) :
    Calls Try.prog 29 #[.pointer (some ⟨bT, 0, none⟩), .int .i64 (b : Int)] w fun e w' => RelQ w bT bS M c b e w' := by
  obtain ⟨n, hn⟩ : ∃ n, M.length = n := ⟨_, rfl⟩
  obtain ⟨k0, hI⟩ := ReI.start hm (Chg.refl (fun b => b = bT ∨ b = bS) w) hn hiv hb hfr
  have HI0 := Lib.hid hI
  have HC : Hid (∀ z ∈ cont (M.set b none), dok z.dg) := Lib.hid fun z hz => by
    have h1 := (cont_at hb).mem_iff (a := z)
    exact hdk z (h1.2 (List.mem_cons_of_mem _ hz))
  have hbl : b < n := by rw [← hn]; exact atS_lt hb
  have hbi : (b : Int) < (n : Int) := by omega
  have hb0 : (0 : Int) ≤ (b : Int) := by omega
  have HBE := Lib.hid (Below.refl w.heap.size w)
  have HN := Lib.hid hn
  have hne := next_any b hm (by rw [hn]; exact hbl) hn4
  rw [hn] at hne hn4
  have HNE := Lib.hid hne
  obtain ⟨C, hCC⟩ : ∃ C, cont (M.set b none) = C := ⟨_, rfl⟩
  have HCC := Lib.hid hCC
  rw [hCC] at HI0 HC
  have HB0 : Hid (ofs M b 0 = b) := Lib.hid (ofs_zero (by rw [hn]; exact hbl))
  have HB1 : Hid (ofs M b 1 = (b + 1) % n) := Lib.hid (by unfold ofs; rw [hn])
  obtain ⟨R0, hR0⟩ : ∃ R, (encSl.f none).toArray = R := ⟨_, rfl⟩
  have HR0 := Lib.hid hR0
  have HBU : Hid (Try.prog.built 59 [] = some R0) := Lib.hid (by rw [← hR0]; kernel_rfl)
  have HSZ0 : Hid ((Try.prog.info? 59).map (·.size) = some R0.size) := Lib.hid (by rw [← hR0, sl_sz]; exact size34)
  have HON0 : Hid (R0.all (·.oneCell') = true) := Lib.hid (by rw [← hR0]; exact all_oneCell_toArray (encSl.one _))
  have HTL0 : Hid (R0.toList = encSl.f none) := Lib.hid (by rw [← hR0, List.toList_toArray])
  clear hm hiv hb hdk huq hfr hI hn hne hCC hR0
  go_enter Try.func29, Try.ntmps29
  go_wp2
  go_step3
  go_wp2
  go_step3
  go_wp2_with (go_at_call 37; refine HNE.out.mono ?_; rintro e w1 ⟨rfl, hb1⟩; have HI1 := Lib.hid (HI0.out.later hb1); clear hb1)
  go_loopw [1, 4] (fun fv iv wr => ∃ (h k : Nat) (Mk : Sl), fv = .int .i64 ((ofs Mk b h : Nat) : Int) ∧ iv = .int .i64 ((ofs Mk b k : Nat) : Int) ∧ Hid (ReI w wr bT bS Mk c b h k k0 n C)) (fun _ iv _ => n - ((intZ iv).toNat + (n - b)) % n)
  case atStart => exact ⟨0, 1, M, by rw [HB0.out], by rw [HB1.out]; rfl, HI1⟩
  case round =>
    obtain ⟨h, k, Mk, rfl, rfl, HI⟩ := hrel
    have HLN : Hid (Mk.length = n) := Lib.hid HI.out.ln
    obtain ⟨hhk, hkk, hkn⟩ := HI.out.lt
    have hql : ofs Mk b k < n := by rw [← HLN.out]; exact ofs_lt (by rw [HLN.out]; omega) _ _
    have hgl : ofs Mk b h < n := HI.out.at.2.2
    have HMS : Hid ((ofs Mk b k + (n - b)) % n = k) := Lib.hid (by
      have h1 := dist_ofs (A := Mk) (b := b) (h := 0) (k := k) (by rw [HLN.out]; omega) (Nat.zero_le _)
      rw [ofs_zero (by rw [HLN.out]; omega), HLN.out, Nat.sub_zero] at h1
      exact h1.symm)
    have HDH : Hid ((ofs Mk b k + (n - ofs Mk b h)) % n = k - h) := Lib.hid (by
      have h1 := dist_ofs (A := Mk) (b := b) (h := h) (k := k) (by rw [HLN.out]; omega) (by omega)
      rw [HLN.out] at h1
      exact h1.symm)
    have HNX : Hid (ofs Mk b (k + 1) = (ofs Mk b k + 1) % n) := Lib.hid (by rw [ofs_succ, HLN.out])
    obtain ⟨q, hq⟩ : ∃ q, ofs Mk b k = q := ⟨_, rfl⟩
    obtain ⟨g, hg⟩ : ∃ g, ofs Mk b h = g := ⟨_, rfl⟩
    have HQ := Lib.hid hq
    have HG := Lib.hid hg
    rw [hq] at hql HMS HNX HDH
    rw [hg] at hgl HDH
    rw [hq, hg]
    have HQL : Hid (q < Mk.length) := Lib.hid (by rw [HLN.out]; exact hql)
    have HGL : Hid (g < Mk.length) := Lib.hid (by rw [HLN.out]; exact hgl)
    have hqi : (q : Int) < (n : Int) := by omega
    have hq0 : (0 : Int) ≤ (q : Int) := by omega
    have hgi : (g : Int) < (n : Int) := by omega
    have hg0 : (0 : Int) ≤ (g : Int) := by omega
    obtain ⟨s0, s1⟩ := HI.out.tm.cells
    rw [HLN.out] at s0
    have HKK : Hid (h < k ∧ k ≤ k0 ∧ k0 < n) := Lib.hid ⟨hhk, hkk, hkn⟩
    clear hq hg s1 hhk hkk hkn
    cases hat : atS Mk q with
    | none =>
      have x0 := sl_none HI.out.tm.ir HQL.out hat
      have HIV : Hid (Inv (Mk.set g none)) := Lib.hid (by
        have h1 := HI.out.done (by rw [HQ.out]; exact hat)
        rw [HG.out] at h1
        exact h1)
      have HPM : Hid ((cont (Mk.set g none)).Perm C) := Lib.hid (by
        have h1 := HI.out.pm
        rw [HG.out] at h1
        exact h1)
      have HT0 : Hid (wr.there bS (g * 34) R0.size) := Lib.hid (by rw [← HR0.out, sl_sz]; exact HI.out.tm.ir.there HGL.out)
      have HST := Lib.hid (HI.out.tm.store HGL.out none)
      have HSC := Lib.hid (Chg.tr HI.out.ch (HI.out.tm.store_chg HGL.out none) (fun b hb => Or.inl hb))
      clear hat
      go_wp2_with (first
        | (refine wpList_build_is rfl 59 _ rfl R0 ?_ ?_; focus (first | (simp only [List.map_toArray, List.map_nil]; exact HBU.out) | (simp only [Array.map_empty]; exact HBU.out) | (simp; exact HBU.out)))
        | (refine wpList_store_mid rfl 59 _ _ rfl bS (g * 34) R0 rfl rfl HT0.out HSZ0.out HON0.out ?_; rw [HTL0.out]; generalize World.setCells _ _ _ _ = w5 at *))
      refine bodyPost_end (results_none rfl _ _ _) rfl ?_
      exact ⟨_, rfl, HST.out, HIV.out, by rw [List.length_set, HLN.out, HN.out], by rw [HCC.out]; exact HPM.out, HSC.out⟩
    | some x =>
      have HX := Lib.hid hat
      have HXD : Hid (dok x.dg) := Lib.hid (HC.out x (HI.out.pm.mem_iff.1 (mem_cont.2 ⟨ofs Mk b k, by rw [HI.out.at.1, HQ.out]; exact hat⟩)))
      obtain ⟨x0, xr, _⟩ := sl_some HI.out.tm.ir hat HXD.out.1
      have HL9 : Hid (∀ W, Below wr.heap.size wr W → (Instr.loadAt 30 (.pointer (some ⟨bS, q * 34 + 1, none⟩))).run Try.prog W = .ok (.agg (bcs x.dg)) W) := Lib.hid fun W hW => sl_dig (rngS_later xr hW) HXD.out.1
      obtain ⟨u, hu1, hu2⟩ := posN_all (A := Mk) x.dg HQL.out
      have HU1 : Hid (u < n) := Lib.hid (by rw [← HLN.out]; exact hu1)
      have HU2 := Lib.hid hu2
      have hud := dist_own (A := Mk) (d := x.dg) (u := u) (p := q) hu1 hu2.symm
      rw [HLN.out] at hud
      have hml : hmN x.dg % n < n := Nat.mod_lt _ (by omega)
      have HOW := Lib.hid fun W (hW : Below wr.heap.size wr W) => own_any x.dg (HI.out.tm.later hW) HXD.out (by rw [HLN.out]; omega) (by rw [HLN.out]; exact hn4)
      rw [HLN.out] at HOW
      obtain ⟨m, hm⟩ : ∃ m, hmN x.dg % n = m := ⟨_, rfl⟩
      rw [hm] at HOW hml hud
      have HUD := Lib.hid hud
      have hmi : (m : Int) < (n : Int) := by omega
      have hm0 : (0 : Int) ≤ (m : Int) := by omega
      have HS1 : Hid (∀ W, Below wr.heap.size wr W → Calls Try.prog 38 #[.pointer (some ⟨bT, 0, none⟩), .int .i64 (m : Int), .int .i64 (q : Int)] W fun e w' => e = .returned (.int .i64 (u : Int)) ∧ Below W.heap.size W w') := Lib.hid fun W hW => by
        have h1 := steps_any m q (HI.out.tm.later hW) (by rw [HLN.out]; exact hml) (by rw [HLN.out]; exact hql) (by rw [HLN.out]; exact hn4)
        rw [HLN.out, ← HUD.out] at h1
        exact h1
      obtain ⟨kh, hkh⟩ : ∃ x, k - h = x := ⟨_, rfl⟩
      have HKH := Lib.hid hkh
      have HS2 : Hid (∀ W, Below wr.heap.size wr W → Calls Try.prog 38 #[.pointer (some ⟨bT, 0, none⟩), .int .i64 (g : Int), .int .i64 (q : Int)] W fun e w' => e = .returned (.int .i64 (kh : Int)) ∧ Below W.heap.size W w') := Lib.hid fun W hW => by
        have h1 := steps_any g q (HI.out.tm.later hW) (by rw [HLN.out]; exact hgl) (by rw [HLN.out]; exact hql) (by rw [HLN.out]; exact hn4)
        rw [HLN.out, HDH.out, hkh] at h1
        exact h1
      have HBR := Lib.hid (Below.refl wr.heap.size wr)
      obtain ⟨MX, hMX⟩ : ∃ M, bcs x.dg = M := ⟨_, rfl⟩
      rw [hMX] at HL9 HOW
      clear hat xr hu1 hu2 hud hm hMX hkh
      have hcase : kh ≤ u ∨ u < kh := by omega
      rcases hcase with hmv | hkp
      · have hge : (kh : Int) ≤ (u : Int) := by omega
        have hgd : decide ((u : Int) ≥ (kh : Int)) = true := by simpa using hge
        have HMV : Hid (k - h ≤ u) := Lib.hid (by rw [HKH.out]; exact hmv)
        clear hmv
        go_upto_region 5 with (first
          | (refine wpList_ld rfl 30 _ rfl _ rfl _ (HL9.out _ HBR.out) ?_)
          | (go_at_call 36; refine (HOW.out _ HBR.out).mono ?_; rintro e w2 ⟨rfl, hb2⟩; have HB2 := Lib.hid hb2; clear hb2)
          | (go_at_call 38; (fail_if_success (have hh := HB3.out)); refine (HS1.out _ HB2.out).mono ?_; rintro e w3 ⟨rfl, hb3⟩; have HB3 := Lib.hid (below_step HB2.out hb3); clear hb3)
          | (go_at_call 38; refine (HS2.out _ HB3.out).mono ?_; rintro e w4 ⟨rfl, hb4⟩; have HB4 := Lib.hid (below_step HB3.out hb4); clear hb4))
        have HI4 := Lib.hid (HI.out.later HB4.out)
        obtain ⟨z0, _⟩ := HI4.out.tm.cells
        rw [HLN.out] at z0
        have HL5 : Hid (∀ W, Below w4.heap.size w4 W → (Instr.loadAt 59 (.pointer (some ⟨bS, q * 34, none⟩))).run Try.prog W = .ok (.agg (encSl.f (some x)).toArray) W) := Lib.hid fun W hW => by
          have h1 := sl_load (HI4.out.tm.later hW).ir HQL.out
          rw [HX.out] at h1
          exact h1
        obtain ⟨R, hR⟩ : ∃ R, (encSl.f (some x)).toArray = R := ⟨_, rfl⟩
        have HR := Lib.hid hR
        rw [hR] at HL5
        have HC0 := Lib.hid z0
        have HI4L := Lib.hid fun W (hW : Below w4.heap.size w4 W) => HI4.out.later hW
        clear hR z0 s0 x0
        refine wp_region_x (fun W : World => W.cell? ⟨bT, 0, none⟩ = some (.slice (some ⟨bS, 0, none⟩) n n) ∧ Below w4.heap.size w4 W) 9 (by kernel_rfl) ?_
        have hHeld : (fun W : World => W.cell? ⟨bT, 0, none⟩ = some (.slice (some ⟨bS, 0, none⟩) n n) ∧ Below w4.heap.size w4 W) _ := ⟨(show World.cell? (World.drew w4) _ = _ from HC0.out), (Below.refl _ _).drew⟩
        refine takex 0 (v := ?vv1) rfl (by kernel_rfl) (by kernel_rfl) (by kernel_rfl) (by kernel_rfl) (by kernel_rfl) (fun _ _ _ h => h) (Or.inl ⟨by rfl, ?hy1⟩) hHeld ?rest1
        case hy1 => intro w hSw; (try dsimp only at hSw); go_simp; (try with_reducible rfl)
        (try simp only [Act.put, List.setIfInBounds_toArray, List.set_cons_zero, List.set_cons_succ])
        refine takex 1 (v := ?vv2) rfl (by kernel_rfl) (by kernel_rfl) (by kernel_rfl) (by kernel_rfl) (by kernel_rfl) (fun _ _ _ h => h) (Or.inl ⟨by rfl, ?hy2⟩) hHeld ?rest2
        case hy2 => intro w hSw; (try dsimp only at hSw); go_simp; (try with_reducible rfl)
        (try simp only [Act.put, List.setIfInBounds_toArray, List.set_cons_zero, List.set_cons_succ])
        refine takex 2 (v := ?vv3) rfl (by kernel_rfl) (by kernel_rfl) (by kernel_rfl) (by kernel_rfl) (by kernel_rfl) (fun _ _ _ h => h) (Or.inl ⟨by rfl, ?hy3⟩) hHeld ?rest3
        case hy3 => intro w hSw; (try dsimp only at hSw); go_simp; (try with_reducible rfl)
        (try simp only [Act.put, List.setIfInBounds_toArray, List.set_cons_zero, List.set_cons_succ])
        refine takex 3 (v := ?vv4) rfl (by kernel_rfl) (by kernel_rfl) (by kernel_rfl) (by kernel_rfl) (by kernel_rfl) (fun _ _ _ h => h) (Or.inl ⟨by rfl, ?hy4⟩) hHeld ?rest4
        case hy4 => intro w hSw; (try dsimp only at hSw); go_simp; (try with_reducible rfl)
        (try simp only [Act.put, List.setIfInBounds_toArray, List.set_cons_zero, List.set_cons_succ])
        refine takex 4 (v := ?vv5) rfl (by kernel_rfl) (by kernel_rfl) (by kernel_rfl) (by kernel_rfl) (by kernel_rfl) (fun _ _ _ h => h) (Or.inl ⟨by rfl, ?hy5⟩) hHeld ?rest5
        case hy5 => intro w hSw; (try dsimp only at hSw); go_simp; (try with_reducible rfl)
        (try simp only [Act.put, List.setIfInBounds_toArray, List.set_cons_zero, List.set_cons_succ])
        refine takex 5 (v := ?vv6) rfl (by kernel_rfl) (by kernel_rfl) (by kernel_rfl) (by kernel_rfl) (by kernel_rfl) (fun _ _ _ h => h) (Or.inl ⟨by rfl, ?hy6⟩) hHeld ?rest6
        case hy6 => intro w hSw; (try dsimp only at hSw); go_simp; (try with_reducible rfl)
        (try simp only [Act.put, List.setIfInBounds_toArray, List.set_cons_zero, List.set_cons_succ])
        refine takex 6 (v := ?vv7) rfl (by kernel_rfl) (by kernel_rfl) (by kernel_rfl) (by kernel_rfl) (by kernel_rfl) (fun _ _ _ h => h) (Or.inl ⟨by rfl, ?hy7⟩) hHeld ?rest7
        case hy7 => intro w hSw; (try dsimp only at hSw); go_simp; (try with_reducible rfl)
        (try simp only [Act.put, List.setIfInBounds_toArray, List.set_cons_zero, List.set_cons_succ])
        refine takex 7 rfl (by kernel_rfl) (by kernel_rfl) (by kernel_rfl) (by kernel_rfl) (by kernel_rfl) (fun _ _ _ h => h) (yieldsIf_ld (by rfl) 59 (.tmp 45) rfl (.pointer (some ⟨bS, q * 34, none⟩)) rfl (.agg R) (fun W hW => HL5.out W hW.2)) hHeld ?_
        (try simp only [Act.put, List.setIfInBounds_toArray, List.set_cons_zero, List.set_cons_succ])
        refine takex 8 (v := ?vv9) rfl (by kernel_rfl) (by kernel_rfl) (by kernel_rfl) (by kernel_rfl) (by kernel_rfl) (fun _ _ _ h => h) (Or.inl ⟨by rfl, ?hy9⟩) hHeld ?rest9
        case hy9 => intro w hSw; (try dsimp only at hSw); go_simp; (try with_reducible rfl)
        (try simp only [Act.put, List.setIfInBounds_toArray, List.set_cons_zero, List.set_cons_succ])
        refine lastx 9 rfl (by kernel_rfl) (by kernel_rfl) (fun K hK => ?_)
        rw [if_pos (by rfl)]
        have HI5 := Lib.hid (HI4L.out _ hHeld.2)
        have HTH := Lib.hid (HI5.out.tm.ir.there HGL.out)
        have HGZ := Lib.hid (HI5.out.move (by rw [HQ.out]; exact HX.out) HU1.out (by rw [HQ.out]; exact HU2.out.symm) HMV.out)
        rw [HG.out] at HGZ
        refine wp_store_mid 59 _ _ rfl bS (g * 34) R rfl rfl (by rw [← HR.out, sl_sz]; exact HTH.out) (by rw [← HR.out, sl_sz]; exact size34) (by rw [← HR.out]; exact all_oneCell_toArray (encSl.one _)) ?_
        rw [← HR.out, List.toList_toArray]
        clear HTH HI5
        generalize World.setCells _ _ _ _ = wZ at *
        first
          | refine hK.out _ _ ?_
          | (go_wp2_with fail; refine hK.out _ _ ?_)
        clear hK K hHeld
        have HMZ2 := Lib.hid HGZ.out.tm
        have HLZ : Hid ((Mk.set g (some x)).length = n) := Lib.hid (by rw [List.length_set]; exact HLN.out)
        have HNZ := Lib.hid fun W (hW : Below wZ.heap.size wZ W) => next_any q (HMZ2.out.later hW) (by rw [HLZ.out]; exact hql) (by rw [HLZ.out]; exact hn4)
        rw [HLZ.out] at HNZ
        have HBZ := Lib.hid (Below.refl wZ.heap.size wZ)
        go_wp2_with (go_at_call 37; refine (HNZ.out _ HBZ.out).mono ?_; rintro e w6 ⟨rfl, hb6⟩; have HI6 := Lib.hid (HGZ.out.later hb6); clear hb6)
        exact ⟨⟨k, k + 1, _, by rw [ofs_set, HQ.out], by rw [ofs_set, HNX.out]; rfl, HI6⟩, by
          have h1 := dist_ofs (A := Mk) (b := b) (h := 0) (k := k + 1) (by have := HKK.out; rw [HLN.out]; exact Nat.lt_of_le_of_lt HI6.out.lt.2.1 this.2.2) (Nat.zero_le _)
          rw [ofs_zero (by rw [HLN.out]; omega), HLN.out, HNX.out, Nat.sub_zero] at h1
          have h2 := HKK.out
          show n - ((((q + 1) % n : Nat) : Int).toNat + (n - b)) % n < n - (((q : Nat) : Int).toNat + (n - b)) % n
          rw [Int.toNat_natCast, Int.toNat_natCast, ← h1, HMS.out]
          omega⟩
      · have hge : ¬ (kh : Int) ≤ (u : Int) := by omega
        have hgd : decide ((u : Int) ≥ (kh : Int)) = false := by simpa using hge
        have HMV : Hid (u < k - h) := Lib.hid (by rw [HKH.out]; exact hkp)
        have HIK := Lib.hid (HI.out.keep (by rw [HQ.out]; exact HX.out) HU1.out (by rw [HQ.out]; exact HU2.out.symm) HMV.out)
        have HNZ := Lib.hid fun W (hW : Below wr.heap.size wr W) => next_any q (HI.out.tm.later hW) (by rw [HLN.out]; exact hql) (by rw [HLN.out]; exact hn4)
        rw [HLN.out] at HNZ
        clear hkp
        go_wp2_with (first
          | (refine wpList_ld rfl 30 _ rfl _ rfl _ (HL9.out _ HBR.out) ?_)
          | (go_at_call 36; refine (HOW.out _ HBR.out).mono ?_; rintro e w2 ⟨rfl, hb2⟩; have HB2 := Lib.hid hb2; clear hb2)
          | (go_at_call 38; (fail_if_success (have hh := HB3.out)); refine (HS1.out _ HB2.out).mono ?_; rintro e w3 ⟨rfl, hb3⟩; have HB3 := Lib.hid (below_step HB2.out hb3); clear hb3)
          | (go_at_call 38; refine (HS2.out _ HB3.out).mono ?_; rintro e w4 ⟨rfl, hb4⟩; have HB4 := Lib.hid (below_step HB3.out hb4); clear hb4)
          | (go_at_call 37; refine (HNZ.out _ HB4.out).mono ?_; rintro e w6 ⟨rfl, hb6⟩; have HI6 := Lib.hid (HIK.out.later (below_step HB4.out hb6)); clear hb6))
        exact ⟨⟨h, k + 1, Mk, by rw [HG.out], by rw [HNX.out]; rfl, HI6⟩, by
          have h1 := dist_ofs (A := Mk) (b := b) (h := 0) (k := k + 1) (by have := HKK.out; rw [HLN.out]; exact Nat.lt_of_le_of_lt HI6.out.lt.2.1 this.2.2) (Nat.zero_le _)
          rw [ofs_zero (by rw [HLN.out]; omega), HLN.out, HNX.out, Nat.sub_zero] at h1
          have h2 := HKK.out
          show n - ((((q + 1) % n : Nat) : Int).toNat + (n - b)) % n < n - (((q : Nat) : Int).toNat + (n - b)) % n
          rw [Int.toNat_natCast, Int.toNat_natCast, ← h1, HMS.out]
          omega⟩
/-- what Cut leaves -/
def CutQ (w : World) (S : Nat → Prop) (v : Value) (L : List Pr) (d : List Int) (s : Int) (e : Ending) (w' : World) : Prop :=
  ∃ S', e = .returned (.bool (getN L d).isSome) ∧ Tb w' S' v (cutN L d) s ∧ Chg S w w' ∧ ∀ b, S' b → S b ∨ w.heap.size ≤ b
theorem cut_pm {A : Sl} {L : List Pr} {p : Nat} {y : Pr} {d : List Int} (hpm : L.Perm (cont A)) (huq : Uniq L) (hy : atS A p = some y) (hd : y.dg = d) : (cutN L d).Perm (cont (A.set p none)) := by
  rw [← hd]
  exact (cutN_perm hpm y.dg).trans (cont_cut (uniq_perm hpm huq) hy).symm
theorem TbP.cut {A A' : Sl} {L : List Pr} {s : Int} {c c1 : Nat} {d : List Int} {x : Int} (h : TbP A L s c) (hc : c = c1 + 1) (hg : getN L d = some x) (hi : Inv A') (hl : A'.length = A.length) (hp : (cont A').Perm (cutN L d)) : TbP A' (cutN L d) s c1 := by
  have h1 := cutN_some h.uq hg
  have h2 := h.cnt
  have h3 := h.load
  exact ⟨hi, cutN_uniq h.uq d, hp.symm, by omega, by rw [hl]; omega, by rw [hl]; exact h.n8, by rw [hl]; exact h.dv, by rw [hl]; exact h.n4, by rw [hl]; exact h.sl, fun z hz => h.dk z (cutN_mem.1 hz).1⟩
set_option maxRecDepth 100000 in
set_option maxHeartbeats 4000000 in
theorem cut_any {w : World} {S : Nat → Prop} {v : Value} {L : List Pr} {s : Int} (d : List Int) (h : Tb w S v L s) (hd : dok d) :
    Calls Try.prog 11 #[v, .agg (bcs d)] w fun e w' => CutQ w S v L d s e w' := by
  obtain ⟨bT, bS, A, c, rfl, rfl, hm, hp⟩ := h
  obtain ⟨w0, hw0⟩ : ∃ W, w.alloc (.cells (bcs d) 30) = W := ⟨_, rfl⟩
  obtain ⟨B, hB⟩ : ∃ g, w.heap.size = g := ⟨_, rfl⟩
  have hb0 : Below B w w0 := by rw [← hw0, ← hB]; exact (Below.refl _ _).alloc (Nat.le_refl _) _
  have hy : Yw w0 B 30 d := by rw [← hw0, ← hB]; exact heap_alloc_new _ _
  have HLD : Hid (∀ W, Below w0.heap.size w0 W → (Instr.loadAt 30 (.pointer (some ⟨B, 0, none⟩))).run Try.prog W = .ok (.agg (bcs d)) W) := Lib.hid fun W hW => dig_load (hy.later hW) hd.1
  have HM0 := Lib.hid (hm.later (by rw [hB]; exact hb0))
  have HB0 : Hid (Chg (fun b => b = bT ∨ b = bS) w w0) := Lib.hid (Chg.of_below (by rw [hB]; exact hb0))
  have HP := Lib.hid hp
  have HD := Lib.hid hd
  have HBE := Lib.hid (Below.refl w0.heap.size w0)
  have HFI := Lib.hid fun W (hW : Below w0.heap.size w0 W) => find_any d (HM0.out.later hW) hp.dka hp.free hp.n4 hd
  have hcn : 4 * c ≤ 3 * A.length := by rw [hp.cnt]; exact hp.load
  have hn4 := hp.n4
  have hn8 := hp.n8
  clear hm hp hd hb0 hy
  obtain ⟨n, hn⟩ : ∃ n, A.length = n := ⟨_, rfl⟩
  have HN := Lib.hid hn
  rw [hn] at hn4 hn8 hcn
  generalize hM : bcs d = M at *
  clear hM hn
  go_enter Try.func11, Try.ntmps11
  go_upto_region 4 with (first
    | (refine wpList_ld rfl 30 _ rfl _ rfl _ (HLD.out _ HBE.out) ?_)
    | (go_at_call 26; refine (HFI.out _ HBE.out).mono ?_; rintro e w1 ⟨t, fb, rfl, htn, hpre, hor, hb01⟩))
  have HM1 := Lib.hid (HM0.out.later hb01)
  have HC1 : Hid (Chg (fun b => b = bT ∨ b = bS) w0 w1) := Lib.hid (Chg.of_below hb01)
  have HPRE := Lib.hid hpre
  have hpl : posN A d t < n := by rw [← HN.out]; exact posN_lt (by omega) d t
  obtain ⟨p, hpp⟩ : ∃ p, posN A d t = p := ⟨_, rfl⟩
  have HPP := Lib.hid hpp
  rw [hpp] at hor hpl
  rw [hpp]
  have HPL : Hid (p < A.length) := Lib.hid (by rw [HN.out]; exact hpl)
  have hpi : (p : Int) < (n : Int) := by omega
  have hp0 : (0 : Int) ≤ (p : Int) := by omega
  clear hpre hpp htn hb01
  rcases hor with ⟨rfl, hor⟩ | ⟨rfl, y, hor, hyd⟩
  · have HGN : Hid (getN L d = none) := Lib.hid (by rw [getN_perm HP.out.pm HP.out.uq]; exact HPRE.out.none HP.out.iv (by rw [HPP.out]; exact hor))
    clear hor
    go_wp2
    go_ret
    refine ⟨_, by rw [HGN.out]; rfl, ⟨bT, bS, A, c, rfl, rfl, HM1.out, ?_⟩, Chg.tr HB0.out HC1.out (fun b hb => Or.inl hb), fun b hb => Or.inl hb⟩
    rw [cutN_none HGN.out]
    exact HP.out
  · have HGY : Hid (getN L d = some y.v) := Lib.hid (by rw [getN_perm HP.out.pm HP.out.uq, ← hyd]; exact at_get HP.out.uc hor)
    have hc1 := cutN_some HP.out.uq HGY.out
    obtain ⟨c1, hcc⟩ : ∃ c1, c = c1 + 1 := ⟨c - 1, by have := HP.out.cnt; omega⟩
    have HCC := Lib.hid hcc
    have HPM : Hid ((cont (A.set p none)).Perm (cutN L d)) := Lib.hid ((cut_pm HP.out.pm HP.out.uq hor hyd).symm)
    have HRE := Lib.hid (release_any HM1.out HP.out.iv hor (fun z hz => HP.out.dk z (HP.out.pm.mem_iff.2 hz)) HP.out.uc HP.out.free HP.out.n4)
    have hwd : IntKind.i64.wrap ((c : Int) - 1) = (c1 : Int) := by rw [IntKind.wrap_i64]; omega
    clear hor hyd hc1
    go_upto_region 6 with (go_at_call 29; refine HRE.out.mono ?_; rintro e w2 ⟨A2, rfl, ht2, hi2, hl2, hpm2, hc2⟩)
    have HT2 := Lib.hid ht2
    have HTP := Lib.hid (HP.out.cut HCC.out HGY.out hi2 hl2 (hpm2.trans HPM.out))
    obtain ⟨s0, s1⟩ := ht2.cells
    have sf := ht2.frozen 1
    have HC2 := Lib.hid (Chg.tr HC1.out hc2 (fun b hb => Or.inl hb))
    have HM3 := Lib.hid (ht2.count c1)
    have HC3 : Hid (Chg (fun b => b = bT ∨ b = bS) w0 (World.setCell w2 ⟨bT, 1, none⟩ (.int .i64 (c1 : Int)))) := Lib.hid (Chg.tr HC2.out (ht2.count_chg _) (fun b hb => Or.inl hb))
    clear ht2 hi2 hl2 hpm2 hc2 s0 hcc
    go_upto_region 7 with fail
    generalize World.setCell _ _ _ = w3 at *
    go_wp2
    go_ret
    exact ⟨_, by rw [HGY.out]; rfl, ⟨bT, bS, _, c1, rfl, rfl, HM3.out, HTP.out⟩, Chg.tr HB0.out HC3.out (fun b hb => Or.inl hb), fun b hb => Or.inl hb⟩
theorem tabOk : TabOk Tb where
  keep h hk := tb_keep h hk
  lt h := tb_lt h
  new w := new_any w
  put d x h hd hL := put_any grow_any d x h hd hL
  get d h hd := get_any d h hd
  cut d h hd := cut_any d h hd
  len h := len_any h
  slots h := slots_any h
end Go.Proofs.Ytfdmpbhgejahaaa

namespace Go.Proofs.Ytfdmpbhgejahaaa
set_option linter.unusedVariables false
open Go.RowKit Go.Lib

set_option maxRecDepth 100000 in
set_option maxHeartbeats 2000000 in
theorem tabRow_any (hR : RowOk) : TabRow Tb := by
  intro w S v L s h hL
  obtain ⟨bT, bS, A, c, rfl, rfl, hm, hp⟩ := h
  rw [drow_perm hp.pm (fun x hx => (hp.dk x hx).1)]
  have HRO := Lib.hid hR
  have HLL : Hid ((cont A).length ≤ 1048576) := Lib.hid (by rw [← hp.pm.length_eq]; exact hL)
  have HK : Hid (∀ q x, atS A q = some x → dok x.dg) := Lib.hid hp.dka
  have HM := Lib.hid hm
  obtain ⟨n, hn⟩ : ∃ n, A.length = n := ⟨_, rfl⟩
  have HN := Lib.hid hn
  have hn4 : n ≤ 4194304 := by rw [← hn]; exact hp.n4
  obtain ⟨c0, _⟩ := hm.cells
  rw [hn] at c0
  clear hR hL hm hp hn
  go_enter Try.func17, Try.ntmps17
  go_wp2
  clear c0
  go_loopw [3, 13] (fun ov j wr => ∃ (k : Nat) (q : Option Addr) (m c' : Nat), k ≤ n ∧ j = .int .i64 (k : Int) ∧ ov = .slice q m c' ∧ Hid (Od wr w.heap.size (.slice q m c') (keysN (cont (A.take k)))) ∧ Hid (Below w.heap.size w wr)) (fun _ j _ => n - (intZ j).toNat)
  case atStart => exact ⟨0, none, 0, 0, by omega, rfl, rfl, Lib.hid (Od.nil _ _), Lib.hid (Below.refl _ _)⟩
  case round =>
    obtain ⟨k, q, m, c', hkn, rfl, rfl, HO, HB⟩ := hrel
    by_cases hlt : k < n
    · have HMR := Lib.hid (HM.out.later HB.out)
      obtain ⟨c0, _⟩ := HMR.out.cells
      rw [HN.out] at c0
      have HKL : Hid (k < A.length) := Lib.hid (by rw [HN.out]; exact hlt)
      have hki : (k : Int) < (n : Int) := by omega
      have hk0 : (0 : Int) ≤ (k : Int) := by omega
      have HTS := Lib.hid (cont_take_succ HKL.out)
      cases hat : atS A k with
      | none =>
        have x0 := sl_none HMR.out.ir HKL.out hat
        rw [hat] at HTS
        have HO1 : Hid (Od wr w.heap.size (.slice q m c') (keysN (cont (A.take (k + 1))))) := Lib.hid (by rw [HTS.out]; simp only [List.append_nil]; exact HO.out)
        clear hat
        go_wp2
        exact ⟨⟨k + 1, _, _, _, by omega, by go_num, rfl, HO1, HB⟩, by simp [intZ] <;> omega⟩
      | some x =>
        have HDK := Lib.hid (HK.out k x hat)
        obtain ⟨x0, xr, _⟩ := sl_some HMR.out.ir hat HDK.out.1
        have HL1 : Hid (∀ W, Below wr.heap.size wr W → (Instr.loadAt 30 (.pointer (some ⟨bS, k * 34 + 1, none⟩))).run Try.prog W = .ok (.agg (bcs x.dg)) W) := Lib.hid fun W hW => sl_dig (rngS_later xr hW) HDK.out.1
        rw [hat] at HTS
        have HT : Hid (keysN (cont (A.take (k + 1))) = keysN (cont (A.take k)) ++ [x.dg]) := Lib.hid (by rw [HTS.out]; unfold keysN; rw [List.map_append]; rfl)
        have HLK : Hid ((keysN (cont (A.take k))).length ≤ 1048576) := Lib.hid (by unfold keysN; rw [List.length_map]; have := cont_take_le A k; have := HLL.out; omega)
        have HBR := Lib.hid (Below.refl wr.heap.size wr)
        obtain ⟨d1, hd1⟩ : ∃ d, x.dg = d := ⟨_, rfl⟩
        rw [hd1] at HL1 HDK HT
        clear hat xr hd1
        go_wp2_with (first
          | (refine wpList_ld rfl 30 _ rfl _ rfl _ (HL1.out _ HBR.out) ?_)
          | (refine wpList_build_dig rfl 44 30 rfl Try.underlying44 info24 d1 HDK.out.1 rfl ?_)
          | (refine wpList_append_digs rfl _ _ 44 rfl Try.underlying44 info24 w.heap.size _ _ rfl (HO.out.alloc _) _ 1 1 [d1] rfl (Od.one wr w.heap.size d1 HDK.out HB.out.size).ds (fun h => by cases h) (by have := HLK.out; omega) (by have := HB.out.size; rw [World.size_alloc]; omega) ?_; intro v8 w8 ho8 hg8; have HB8 := Lib.hid (below_new_od (HB.out.alloc HB.out.size _) (HO.out.alloc _) hg8 (by have := HB.out.size; rw [World.size_alloc]; omega)); rw [← HT.out] at ho8; obtain ⟨p8, c8, hv8, _⟩ := ho8.open; obtain ⟨mm8, hmm8⟩ : ∃ x, (keysN (cont (A.take (k + 1)))).length = x := ⟨_, rfl⟩; rw [hmm8] at hv8; subst hv8; have HO8 := Lib.hid ho8; clear ho8 hg8 hmm8))
        exact ⟨⟨k + 1, _, _, _, by omega, by go_num, rfl, HO8, HB8⟩, by simp [intZ] <;> omega⟩
    · obtain rfl : k = n := by omega
      have e1 : A.take k = A := List.take_of_length_le (by rw [HN.out]; exact Nat.le_refl _)
      rw [e1] at HO
      obtain ⟨p', cap, hv, h1, h2, h3, h4, _⟩ := HO.out.open
      simp only [Value.slice.injEq] at hv
      obtain ⟨rfl, rfl, rfl⟩ := hv
      have HRW := Lib.hid (HRO.out q _ c' _ wr h3 h4 h1 h2 (by unfold keysN; rw [List.length_map]; exact HLL.out))
      obtain ⟨m, hm⟩ : ∃ m, (keysN (cont A)).length = m := ⟨_, rfl⟩
      rw [hm] at HRW
      rw [hm]
      clear h1 h2 h3 h4 hm e1
      go_wp2_with fail
      refine HRW.out.mono ?_
      rintro e w8 ⟨v, rfl, ho, hb8⟩
      have HO8 := Lib.hid (ho.mono HB.out.size)
      have HB8 := Lib.hid (below_step HB.out hb8)
      clear ho hb8
      go_wp2
      go_ret
      exact ⟨_, rfl, HO8.out, HB8.out⟩
end Go.Proofs.Ytfdmpbhgejahaaa

namespace Go.Proofs.Ytfdmpbhgejahaaa
set_option linter.unusedVariables false
open Go.RowKit Go.Lib

theorem slotsN_bd {L : List Pr} {s : Int} {d : List Int} {k : Nat} (hL : L.length ≤ k) (h0 : 0 ≤ s) (h1 : s ≤ 8 + 4 * (k : Int)) : 0 ≤ slotsN L s d ∧ slotsN L s d ≤ 8 + 4 * ((k + 1 : Nat) : Int) := by
  unfold slotsN
  have h2 := cutN_length L d
  split
  · omega
  · omega
structure LoS (Tb : World → (Nat → Prop) → Value → List Pr → Int → Prop) (w W : World) (v : Value) (bR : Nat) (S : Nat → Prop) (L : List Pr) (s : Int) (p : Option Addr) (m c : Nat) (N : List Px) : Prop where
  tb : Tb W S v L s
  bt : Bt W bR (.slice p m c) s
  gw : Gw encPr W w.heap.size (.slice p m c) N
  nl : prL N = L
  dk : ∀ x ∈ N, dok x.1.dg
  un : Uniq L
  sr : ¬ S bR
  so : ∀ g, (Value.slice p m c).ownBlock = some g → ¬ S g
  sw : ∀ b, S b → w.heap.size ≤ b
  br : w.heap.size ≤ bR
  le : Below w.heap.size w W
section
variable {Tb : World → (Nat → Prop) → Value → List Pr → Int → Prop} {w W W1 W2 : World} {v : Value} {bR : Nat} {S S' : Nat → Prop} {L : List Pr} {s : Int} {p : Option Addr} {m c : Nat} {N : List Px}
theorem LoS.len (h : LoS Tb w W v bR S L s p m c N) : L.length = m := by rw [← h.nl, prL_length, h.gw.len]
theorem LoS.later (hT : TabOk Tb) (h : LoS Tb w W v bR S L s p m c N) (hb : Below W.heap.size W W1) : LoS Tb w W1 v bR S L s p m c N :=
  ⟨hT.later h.tb hb, h.bt.later hb, h.gw.later hb, h.nl, h.dk, h.un, h.sr, h.so, h.sw, h.br, below_step h.le hb⟩
/-- what lasts of the row and its box while the table turns -/
structure MiS (w W1 : World) (bR : Nat) (s : Int) (p : Option Addr) (m c : Nat) (N : List Px) : Prop where
  bt : Bt W1 bR (.slice p m c) s
  gw : Gw encPr W1 w.heap.size (.slice p m c) N
  le : Below w.heap.size w W1
theorem MiS.later (h : MiS w W bR s p m c N) (hb : Below W.heap.size W W1) : MiS w W1 bR s p m c N := ⟨h.bt.later hb, h.gw.later hb, below_step h.le hb⟩
theorem LoS.mid (h : LoS Tb w W v bR S L s p m c N) (hc : Chg S W W1) : MiS w W1 bR s p m c N := by
  refine ⟨(hc.block _ h.bt.lt h.sr).trans h.bt, ?_, h.le.trans (hc.below h.sw h.le.size)⟩
  obtain ⟨hl, h2⟩ := h.gw
  refine ⟨hl, ?_⟩
  rcases h2 with h2 | ⟨g, cap, cur, hv, hB, hgb, r⟩
  · exact Or.inl h2
  · exact Or.inr ⟨g, cap, cur, hv, hB, (hc.block g (Array.getElem?_eq_some_iff.1 hgb).1 (h.so g (by rw [hv]; rfl))).trans hgb, r⟩
theorem own_ge {B : Nat} {q : Option Addr} {m' c' : Nat} {N' : List Px} (g2 : Gw encPr W B (.slice q m' c') N') {g : Nat} (hg : (Value.slice q m' c').ownBlock = some g) : B ≤ g := by
  rcases g2.2 with ⟨hv, _⟩ | ⟨g', cap, cur, hv, hB, _⟩
  · rw [hv] at hg; cases hg
  · rw [hv] at hg
    simp only [Value.ownBlock, Option.some.injEq] at hg
    omega
/-- the table has turned, then the reference's: together again -/
theorem LoS.next (hT : TabOk Tb) (h : LoS Tb w W v bR S L s p m c N) {L' : List Pr} {s' : Int} {q : Option Addr} {m' c' : Nat} {N' : List Px}
    (t1 : Tb W1 S' v L' s') (c1 : Chg S W W1) (s1 : ∀ b, S' b → S b ∨ W.heap.size ≤ b) (b2 : Below W1.heap.size W1 W2) (g2 : Gw encPr W2 W1.heap.size (.slice q m' c') N')
    (hN : prL N' = L') (hk : ∀ x ∈ N', dok x.1.dg) (hu : Uniq L') :
    LoS Tb w ((W2.setCell ⟨bR, 0, none⟩ (.slice q m' c')).setCell ⟨bR, 1, none⟩ (.int .i64 s')) v bR S' L' s' q m' c' N' := by
  have hm := h.mid c1
  have hb2 := hm.bt.later b2
  have hR : bR < W.heap.size := h.bt.lt
  have hsR : ¬ S' bR := fun e => by
    rcases s1 bR e with e | e
    · exact h.sr e
    · omega
  have hW : w.heap.size ≤ W1.heap.size := Nat.le_trans h.le.size c1.size
  have hle : Below w.heap.size w W2 := below_step hm.le b2
  have hg2 := g2.mono hW
  obtain ⟨e1, e2, e3⟩ := bt_copy (w := w) (s := s') hb2 hg2 hle h.br
  have t2 := hT.later t1 b2
  refine ⟨hT.keep t2 fun b hb => ?_, e1, e2, hN, hk, hu, hsR, fun g hg hs => ?_, fun b hb => ?_, h.br, e3⟩
  · have hne : b ≠ bR := fun e => hsR (e ▸ hb)
    rw [heap_setCell_other _ ⟨bR, 1, none⟩ b _ hne, heap_setCell_other _ ⟨bR, 0, none⟩ b _ hne]
  · have h1 := own_ge g2 hg
    have h2 := hT.lt t1 g hs
    omega
  · rcases s1 b hb with e | e
    · exact h.sw b e
    · exact Nat.le_trans h.le.size e
end
end Go.Proofs.Ytfdmpbhgejahaaa

namespace Go.Proofs.Ytfdmpbhgejahaaa
set_option linter.unusedVariables false
open Go.RowKit Go.Lib Go.ChangeShapes Go.WideShapes Go.ChangeAt

theorem slotsmany_walk (many cut low : Int) (w : World) (h0 : -9223372036854775808 ≤ many ∧ many ≤ 9223372036854775807) (h1 : -9223372036854775808 ≤ cut ∧ cut ≤ 9223372036854775807) (h2 : 0 ≤ low) (h3 : low < 256) :
    Calls Try.prog 4 #[.int .i64 many, .int .i64 cut, .int .u8 low] w fun e w' => e = .returned (.bool true) ∧ Below w.heap.size w w' := slotsmany_any tabOk many cut low w h1 ⟨h2, h3⟩
set_option maxRecDepth 100000 in
theorem slotsMany_contract (H : Type) (enc : TypeId × Value → H) (W : World) (base : Nat) (args : Array Value) (ds gs : List (DataW H)) (before : List MemPlace)
    (hval : ∀ (j : Nat) t v, Try.f4.params[j]? = some t → args[j]? = some v → Value.okWide Try.prog W .any base t v)
    (hW : DataW.Whole enc Try.prog Try.f4.params.toList Rows.slotsManySpec.vars false W args.toList ds gs before) :
    Calls Try.prog 4 args W fun e W' => ∃ v, e = .returned v ∧ Rows.slotsManySpec.post enc Try.prog Try.f4 false true false false W args v W' := by
  have hW' := hW
  obtain ⟨p, q, hA0, hV, rfl, hfz, hnd⟩ := hW
  have hA : DataW.TrodAll enc Try.prog W 0 (fun _ => true) true Try.f4.params.toList args.toList ds p := hA0
  rw [Try.params4] at hA hval
  obtain ⟨v0, vs0, d0, ds0, p0, q0, hargs, rfl, rfl, t0, r0⟩ := trodAll_cons hA
  obtain ⟨v1, vs1, d1, ds1, p1, q1, rfl, rfl, rfl, t1, r1⟩ := trodAll_cons r0
  obtain ⟨v2, vs2, d2, ds2, p2, q2, rfl, rfl, rfl, t2, r2⟩ := trodAll_cons r1
  obtain ⟨rfl, rfl, rfl⟩ := trodAll_nil r2
  obtain rfl : args = #[v0, v1, v2] := by cases args; simp_all
  obtain ⟨rfl, rfl⟩ := trodVars_none hV
  obtain ⟨m0, rfl, rfl, rfl, wm0⟩ := open_int Try.underlying3 (hval 0 3 v0 rfl rfl) t0
  obtain ⟨m1, rfl, rfl, rfl, wm1⟩ := open_int Try.underlying3 (hval 1 3 v1 rfl rfl) t1
  obtain ⟨m2, rfl, rfl, rfl, wm2⟩ := open_int Try.underlying5 (hval 2 5 v2 rfl rfl) t2
  refine (slotsmany_walk  m0 m1 m2 W (wf_i64 wm0) (wf_i64 wm1) (wf_u8 wm2).1 (wf_u8 wm2).2).mono fun e W' ⟨he, hb⟩ => ?_
  subst he
  exact ⟨_, rfl, law_post laidOut (by kernel_rfl) rfl Try.underlying4 rfl hW' rfl rfl rfl hb⟩

set_option maxRecDepth 100000 in
theorem slotsMany_lifted (os : Os) (started : os.Started) (H : Type) (enc : TypeId × Value → H) :
    ReturnsInHanded {} Try.checked os 4 .any (Rows.slotsManySpec.pre6 enc Try.prog Try.f4 Rows.slotsManyRow.domain false) (Rows.slotsManySpec.post enc Try.prog Try.f4 false true false false) := by
  refine returnsInHanded_of_change (C := Try.checked) own started (by kernel_rfl) Try.func4
    (ChangeSpec.witness6 (enc := enc) (C := Try.checked) false ⟨#[], #[.int .i64 0, .int .i64 0, .int .u8 0], []⟩ 8 (by kernel_rfl) (by kernel_rfl) (by kernel_rfl) (by kernel_rfl)) ?_
  intro W base args ds gs before hval hW _ _
  exact slotsMany_contract H enc W base args ds gs before hval hW

theorem slotsMany_holds : Rows.SlotsManySaid :=
  OpenClaim.holds_of_wide 4 Try.f4 rfl rfl rfl rfl rfl rfl rfl ⟨rfl, rfl, rfl, rfl, rfl⟩ rfl rfl rfl rfl rfl (by kernel_rfl) Try.func4 (by kernel_rfl)
    (of_decide_eq_true (by kernel_rfl)) (by unfold Func.isWrapper; first | (rw [if_pos (by decide +kernel)]; kernel_rfl) | (rw [if_neg (by decide +kernel)]; exact ⟨rfl, rfl⟩))
    (fun os started H enc _ => slotsMany_lifted os started H enc)
end Go.Proofs.Ytfdmpbhgejahaaa
