/- Layer 14, the reference: read; Layer 14, the program: data that are read part by part -/
import Derived.Test.YthnlfgaljkfhaaaRt13
import Derived.Test.YthnlfgaljkfhaaaRt18
import Derived.Test.YthnlfgaljkfhaaaRt19
import Derived.Laws.CopyOwn
set_option linter.unusedSimpArgs false
set_option linter.unusedVariables false
namespace Go.Proofs.Ythnlfgaljkfhaaa
set_option linter.unusedVariables false
open Go.RowKit Go.Lib

/-- what the reading of data answers -/
structure RdP (k : Int) (zs : List Int) (x : Rq) (ok : Bool) : Prop where
  yes : ∀ r, readN k zs = some r → ok = true ∧ x.rc = r
  no : readN k zs = none → ok = false
theorem RdP.noRec {k : Int} {zs : List Int} {x : Rq} (h : readN k zs = none) : RdP k zs x false := ⟨fun r hr => absurd (h.symm.trans hr) (by simp), fun _ => rfl⟩
theorem RdP.isRec {k : Int} {zs : List Int} {x : Rq} (h : readN k zs = some x.rc) : RdP k zs x true := ⟨fun r hr => ⟨rfl, Option.some.inj (h.symm.trans hr)⟩, fun hr => absurd (h.symm.trans hr) (by simp)⟩
def RdQ (w : World) (k : Int) (zs : List Int) (e : Ending) (w' : World) : Prop := ∃ x ok, e = .returned (.tuple #[Rq.v x, .bool ok]) ∧ Rq.Fit x w' ∧ RdP k zs x ok ∧ Below w.heap.size w w' ∧ Ob w' w.heap.size 5 (.slice x.p x.n x.c) x.da
theorem RdQ.of {w w' : World} {k : Int} {zs : List Int} (x : Rq) (ok : Bool) (hf : x.Fit w') (hp : RdP k zs x ok) (hb : Below w.heap.size w w') (ho : Ob w' w.heap.size 5 (.slice x.p x.n x.c) x.da) : RdQ w k zs (.returned (.tuple #[x.v, .bool ok])) w' := ⟨x, ok, rfl, hf, hp, hb, ho⟩
theorem RdP.was {k : Int} {zs : List Int} {x : Rq} (h : RdP k zs x true) : readN k zs = some x.rc := by
  cases hr : readN k zs with
  | none => exact absurd (h.no hr) (by simp)
  | some r => rw [(h.yes r hr).2]
theorem RdP.wasn {k : Int} {zs : List Int} {x : Rq} (h : RdP k zs x false) : readN k zs = none := by
  cases hr : readN k zs with
  | none => rfl
  | some r => exact absurd (h.yes r hr).1 (by simp)
theorem Rd.start (w : World) : Rd w ((w.alloc (.cells (mixC rq0.a rq0.dg rq0.z) 27)).alloc (.cells (mixC rq0.a rq0.dg rq0.z) 27)) w.heap.size (w.heap.size + 1) rq0 rq0 :=
  ⟨by omega, Nat.le_refl _, by omega, heap_alloc2_old _ _ _, heap_alloc2_new _ _ _, ((Below.refl _ _).alloc (Nat.le_refl _) _).alloc (by simp) _, rfl, rfl⟩
theorem i64_zero : (-9223372036854775808 : Int) ≤ 0 ∧ (0 : Int) ≤ 9223372036854775807 := by omega
theorem u64_zero : (0 : Int) ≤ 0 ∧ (0 : Int) < 18446744073709551616 := by omega
theorem rqK_fit {k : Int} (hk : 1 ≤ k ∧ k ≤ 8) (w : World) : (rqK k).Fit w := ⟨Bs.empty _ _, fun _ => rfl, Nat.le_refl _, Nat.zero_le _, dok_zero, (Nat.zero_le 140737488355328 : (0 : Nat) ≤ 140737488355328), u64_zero, by show _ ≤ k ∧ k ≤ _; omega, i64_zero, i64_zero⟩
theorem keep_row {W W' : World} {g : Nat} {cs : Array Value} (h : W.setRow g cs = W') : ∀ k, k ≠ g → W'.heap[k]? = W.heap[k]? := fun k hk => by rw [← h]; exact setRow_other _ _ _ _ hk
theorem keep_cells {W W' : World} {g o : Nat} {cs : List Value} (h : W.setCells g o cs = W') : ∀ k, k ≠ g → W'.heap[k]? = W.heap[k]? := fun k hk => by rw [← h]; exact setCells_other _ _ hk _ _ _
theorem keep_cell {W W' : World} {g o : Nat} {v : Value} (h : W.setCell ⟨g, o, none⟩ v = W') : ∀ k, k ≠ g → W'.heap[k]? = W.heap[k]? := fun k hk => by rw [← h]; exact heap_setCell_other _ ⟨g, o, none⟩ k v hk
theorem Ob.at {w : World} {B : Nat} {e : TypeId} {p : Option Addr} {n c : Nat} {zs : List Int} (h : Ob w B e (.slice p n c) zs) : Bs w p n zs ∧ n ≤ c ∧ c ≤ maxLen ∧ (p = none → c = 0) := by
  obtain ⟨p', c', hv, h1, h2, h3, h4⟩ := h.open
  simp only [Value.slice.injEq] at hv
  obtain ⟨rfl, rfl, rfl⟩ := hv
  exact ⟨h3, h1, h2, h4⟩
theorem read12 {k : Int} (h : k = 1 ∨ k = 2) (zs : List Int) : readN k zs = if zs.length < 32 then none else some ⟨k, 0, zs.take 32, [], zs.drop 32, 0, 0⟩ := by
  unfold readN
  rw [if_pos (by omega)]

set_option maxRecDepth 100000 in
set_option maxHeartbeats 4000000 in
theorem rread14_any (k : Int) (p : Option Addr) (n c : Nat) (zs : List Int) (w : World) (hk : 1 ≤ k ∧ k ≤ 8) (h : Bs w p n zs) (hpc : p = none → c = 0) (hnc : n ≤ c) (hcm : c ≤ maxLen) (hn : n ≤ 2097152) :
    Calls Try.prog 33 #[.int .i64 k, .slice p n c] w fun e w' => RdQ w k zs e w' := by
  have H := Lib.hid h
  have HPC := Lib.hid hpc
  have HNC := Lib.hid hnc
  have HCM := Lib.hid hcm
  have HL := Lib.hid h.len
  have HBY := Lib.hid (show Byt zs from h.byte)
  have HK := Lib.hid hk
  have hnm : n ≤ maxLen := by unfold maxLen; omega
  clear h hpc hnc
  go_enter Try.func33, Try.ntmps33
  go_upto_region 2 with (first
    | (refine wpList_build_is rfl 27 _ rfl (mixC (rqK k).a (rqK k).dg (rqK k).z) ?_ ?_; kernel_rfl)
    | (refine wpList_store_row rfl 27 _ _ rfl (w.heap.size + 1) _ rfl rfl 27 _ (heap_alloc2_new _ _ _) ((rqK k).sizeOf rfl) (Rq.sizes rq0 (rqK k) rfl rfl) (rqK k).one ?_; generalize hwS : World.setRow _ _ _ = wS))
  have HR : Hid (Rd w wS w.heap.size (w.heap.size + 1) rq0 (rqK k)) := Lib.hid (by rw [← hwS]; exact (Rd.start w).put (rqK k) rfl)
  have HFK := Lib.hid fun W => rqK_fit hk W
  have HXK := Lib.hid (show (rqK k).v = .agg (mixC (rqK k).a (rqK k).dg (rqK k).z) from rfl)
  have HB := Lib.hid (H.out.later HR.out.le)
  have HDG := Lib.hid fun (q : Option Addr) (m d : Nat) (ys : List Int) W (hb : Bs W q m ys) (h32 : 32 ≤ m) (hm : m ≤ maxLen) => rdig14_any q m d ys W hb h32 hm
  have HTK := Lib.hid fun W (hb : Bs W p n zs) (a s : Nat) (h1 : 1 ≤ s) (h8 : s ≤ 8) (h : a + s ≤ n) => (by
    have h2 := rtake_any p n c zs (a : Int) (s : Int) W hb hnm (by omega) (by omega)
    rw [takeN_n zs a s h1 h8 (by rw [hb.len]; omega), show takeB zs.length (a : Int) (s : Int) = true by simp [takeB, isSizeB, holdsB, hb.len]; omega] at h2
    exact h2 : Calls Try.prog 52 #[.slice p n c, .int .i64 (a : Int), .int .i64 (s : Int)] W fun e w' => e = .returned (.tuple #[.int .u64 (leN zs a s), .bool true]) ∧ W = w')
  clear hwS hcm
  rcases kinds (k := k) with h | h | rfl | rfl | rfl | rfl | rfl | rfl | rfl | rfl
  · omega
  · omega
  · have HRN := Lib.hid (read12 (k := 1) (by omega) zs)
    rw [HL.out] at HRN
    by_cases h32 : (n : Int) < 32
    · replace HRN : Hid (readN 1 zs = none) := Lib.hid (by rw [HRN.out, if_pos (by omega)])
      go_wp2_with (first
        | (refine wpList_ld rfl _ _ rfl _ rfl _ (HR.out.own.load HR.out.dx) ?_)
        | (refine wpList_store_row rfl 27 _ _ rfl w.heap.size _ rfl rfl 27 _ HR.out.out (Rq.sizeOf (rqK 1) HR.out.dx) (Rq.sizes rq0 (rqK 1) rfl HR.out.dx) (Rq.one (rqK 1)) ?_; generalize hwZ : World.setRow _ _ _ = wZ; have HZ : Hid (Rd w wZ w.heap.size (w.heap.size + 1) (rqK 1) (rqK 1)) := Lib.hid (by rw [← hwZ]; exact HR.out.ans (rqK 1) HR.out.dx); have HZK := Lib.hid (keep_row hwZ); clear hwZ))
      refine bodyPost_ret (HZ.out.out.res2 HZ.out.dy rfl _ rfl) rfl ?_
      exact RdQ.of (rqK 1) false (HFK.out _) (RdP.noRec HRN.out) HZ.out.le (Ob.nil _ _ _)
    · replace HRN : Hid (readN 1 zs = some ⟨1, 0, zs.take 32, [], zs.drop 32, 0, 0⟩) := Lib.hid (by rw [HRN.out, if_neg (by omega)])
      obtain ⟨p', hsl0, hbs', hpc'⟩ := H.out.slice_from (P := Try.prog) 25 5 Try.underlying25 (fun _ => by kernel_rfl) c 32 HNC.out (by omega)
      have hsl : ∀ W', (Instr.slice 25 (.slice p n c) (some (.int .i64 32)) none none).run Try.prog W' = .ok (.slice p' (n - 32) (c - 32)) W' := hsl0
      have HS' := Lib.hid hbs'
      have HP' := Lib.hid (hpc' HPC.out)
      have HDL : Hid ((zs.take 32).length = 32) := Lib.hid (by rw [List.length_take, HL.out]; omega)
      have HDO : Hid (dok (zs.take 32)) := Lib.hid ⟨HDL.out, HBY.out.take _⟩
      have HML : Hid (([] : List Int).length + (n - 32) ≤ 140737488355328) := Lib.hid (by simp; omega)
      have HDR : Hid ((zs.drop 32).length = n - 32) := Lib.hid (by rw [List.length_drop, HL.out])
      obtain ⟨X1, hX1⟩ : ∃ X, { rqK 1 with dg := zs.take 32 } = X := ⟨_, rfl⟩
      have HX1 := Lib.hid hX1
      clear hsl0 hbs' hpc' hX1
      go_wp2_with (first
        | (go_at_call 53; refine (HDG.out p n c zs _ HB.out (by omega) hnm).mono ?_; rintro e w1 ⟨rfl, hb1⟩; have HR1 := Lib.hid (HR.out.later hb1); clear hb1)
        | (refine wpList_store_mid rfl 24 _ _ rfl (w.heap.size + 1) 2 _ rfl rfl (by rw [bcs_size, HDL.out]; exact Mx.there HR1.out.own 2 32 (by rw [HR1.out.dx]; simp [Rq.a, Rq.z])) (by rw [bcs_size, HDL.out]; exact size32) (bcs_one _) ?_; generalize hwD : World.setCells _ _ _ _ = w2; have HR2 : Hid (Rd w w2 w.heap.size (w.heap.size + 1) rq0 X1) := Lib.hid (by rw [← hwD]; rw [← HX1.out]; exact HR1.out.setDg _ HDL.out); have HKD := Lib.hid (keep_cells hwD); clear hwD; have HB2 := Lib.hid (HS'.out.later HR2.out.le))
        | (refine wpList_append_bytes rfl _ _ 25 5 rfl Try.underlying25 info8 w2.heap.size _ [] rfl (Ob.nil _ _ _) p' (n - 32) (c - 32) (zs.drop 32) rfl HB2.out HP'.out HML.out (Nat.le_refl _) ?_; intro v3 w3 ho3 hg3; rw [List.nil_append] at ho3; have HB3 : Hid (Below w2.heap.size w2 w3) := Lib.hid (below_new (e := 5) (Below.refl _ _) (Ob.nil _ _ _) hg3 (Nat.le_refl _)); have HR3 := Lib.hid (HR2.out.later HB3.out); obtain ⟨p5, c5, hv5, _⟩ := ho3.open; rw [HDR.out] at hv5; subst hv5; have HO3 := Lib.hid ho3; have cl3 := (HR3.out.own.cells HR3.out.dx).2.2.2.1; have fr3 := HR3.out.own.frozen 35; obtain ⟨w4, hw4⟩ : ∃ W, w3.setCell ⟨w.heap.size + 1, 35, none⟩ (.slice p5 (n - 32) c5) = W := ⟨_, rfl⟩; obtain ⟨X2, hX2⟩ : ∃ X, { X1 with p := p5, n := n - 32, c := c5, da := zs.drop 32 } = X := ⟨_, rfl⟩; have HX2 := Lib.hid hX2; have HR4 : Hid (Rd w w4 w.heap.size (w.heap.size + 1) rq0 X2) := Lib.hid (by rw [← hw4, ← hX2]; exact HR3.out.setDa _ _ _ _); have HK4 := Lib.hid (keep_cell hw4); clear ho3 hg3 hX2)
        | (refine wpList_ld rfl _ _ rfl _ rfl _ (HR4.out.own.load HR4.out.dx) ?_)
        | (refine wpList_store_row rfl 27 _ _ rfl w.heap.size _ rfl rfl 27 _ HR4.out.out (Rq.sizeOf X2 HR4.out.dx) (Rq.sizes rq0 X2 rfl HR4.out.dx) (Rq.one X2) ?_; generalize hwZ : World.setRow _ _ _ = wZ; have HZ : Hid (Rd w wZ w.heap.size (w.heap.size + 1) X2 X2) := Lib.hid (by rw [← hwZ]; exact HR4.out.ans X2 HR4.out.dx); have HZK := Lib.hid (keep_row hwZ); clear hwZ))
      have HO4 := HO3.out.keepg (w' := wZ) fun g hg _ => (HZK.out g (by have := HR2.out.gt; omega)).trans (HK4.out g (by have := HR2.out.gt; omega))
      obtain ⟨f1, f2, f3, f4⟩ := HO4.at
      refine bodyPost_ret (HZ.out.out.res2 HZ.out.dy rfl _ rfl) rfl ?_
      exact RdQ.of X2 true (by rw [← HX2.out, ← HX1.out]; exact ⟨f1, f4, f2, f3, HDO.out, (Nat.zero_le 140737488355328 : (0 : Nat) ≤ 140737488355328), u64_zero, by show _ ≤ (1 : Int) ∧ (1 : Int) ≤ _; omega, i64_zero, i64_zero⟩) (RdP.isRec (by rw [HRN.out, ← HX2.out, ← HX1.out]; rfl)) HZ.out.le (by rw [← HX2.out, ← HX1.out]; exact HO4.mono (by have := HR2.out.le.size; omega))
  · have HRN := Lib.hid (read12 (k := 2) (by omega) zs)
    rw [HL.out] at HRN
    by_cases h32 : (n : Int) < 32
    · replace HRN : Hid (readN 2 zs = none) := Lib.hid (by rw [HRN.out, if_pos (by omega)])
      go_wp2_with (first
        | (refine wpList_ld rfl _ _ rfl _ rfl _ (HR.out.own.load HR.out.dx) ?_)
        | (refine wpList_store_row rfl 27 _ _ rfl w.heap.size _ rfl rfl 27 _ HR.out.out (Rq.sizeOf (rqK 2) HR.out.dx) (Rq.sizes rq0 (rqK 2) rfl HR.out.dx) (Rq.one (rqK 2)) ?_; generalize hwZ : World.setRow _ _ _ = wZ; have HZ : Hid (Rd w wZ w.heap.size (w.heap.size + 1) (rqK 2) (rqK 2)) := Lib.hid (by rw [← hwZ]; exact HR.out.ans (rqK 2) HR.out.dx); have HZK := Lib.hid (keep_row hwZ); clear hwZ))
      refine bodyPost_ret (HZ.out.out.res2 HZ.out.dy rfl _ rfl) rfl ?_
      exact RdQ.of (rqK 2) false (HFK.out _) (RdP.noRec HRN.out) HZ.out.le (Ob.nil _ _ _)
    · replace HRN : Hid (readN 2 zs = some ⟨2, 0, zs.take 32, [], zs.drop 32, 0, 0⟩) := Lib.hid (by rw [HRN.out, if_neg (by omega)])
      obtain ⟨p', hsl0, hbs', hpc'⟩ := H.out.slice_from (P := Try.prog) 25 5 Try.underlying25 (fun _ => by kernel_rfl) c 32 HNC.out (by omega)
      have hsl : ∀ W', (Instr.slice 25 (.slice p n c) (some (.int .i64 32)) none none).run Try.prog W' = .ok (.slice p' (n - 32) (c - 32)) W' := hsl0
      have HS' := Lib.hid hbs'
      have HP' := Lib.hid (hpc' HPC.out)
      have HDL : Hid ((zs.take 32).length = 32) := Lib.hid (by rw [List.length_take, HL.out]; omega)
      have HDO : Hid (dok (zs.take 32)) := Lib.hid ⟨HDL.out, HBY.out.take _⟩
      have HML : Hid (([] : List Int).length + (n - 32) ≤ 140737488355328) := Lib.hid (by simp; omega)
      have HDR : Hid ((zs.drop 32).length = n - 32) := Lib.hid (by rw [List.length_drop, HL.out])
      obtain ⟨X1, hX1⟩ : ∃ X, { rqK 2 with dg := zs.take 32 } = X := ⟨_, rfl⟩
      have HX1 := Lib.hid hX1
      clear hsl0 hbs' hpc' hX1
      go_wp2_with (first
        | (go_at_call 53; refine (HDG.out p n c zs _ HB.out (by omega) hnm).mono ?_; rintro e w1 ⟨rfl, hb1⟩; have HR1 := Lib.hid (HR.out.later hb1); clear hb1)
        | (refine wpList_store_mid rfl 24 _ _ rfl (w.heap.size + 1) 2 _ rfl rfl (by rw [bcs_size, HDL.out]; exact Mx.there HR1.out.own 2 32 (by rw [HR1.out.dx]; simp [Rq.a, Rq.z])) (by rw [bcs_size, HDL.out]; exact size32) (bcs_one _) ?_; generalize hwD : World.setCells _ _ _ _ = w2; have HR2 : Hid (Rd w w2 w.heap.size (w.heap.size + 1) rq0 X1) := Lib.hid (by rw [← hwD]; rw [← HX1.out]; exact HR1.out.setDg _ HDL.out); have HKD := Lib.hid (keep_cells hwD); clear hwD; have HB2 := Lib.hid (HS'.out.later HR2.out.le))
        | (refine wpList_append_bytes rfl _ _ 25 5 rfl Try.underlying25 info8 w2.heap.size _ [] rfl (Ob.nil _ _ _) p' (n - 32) (c - 32) (zs.drop 32) rfl HB2.out HP'.out HML.out (Nat.le_refl _) ?_; intro v3 w3 ho3 hg3; rw [List.nil_append] at ho3; have HB3 : Hid (Below w2.heap.size w2 w3) := Lib.hid (below_new (e := 5) (Below.refl _ _) (Ob.nil _ _ _) hg3 (Nat.le_refl _)); have HR3 := Lib.hid (HR2.out.later HB3.out); obtain ⟨p5, c5, hv5, _⟩ := ho3.open; rw [HDR.out] at hv5; subst hv5; have HO3 := Lib.hid ho3; have cl3 := (HR3.out.own.cells HR3.out.dx).2.2.2.1; have fr3 := HR3.out.own.frozen 35; obtain ⟨w4, hw4⟩ : ∃ W, w3.setCell ⟨w.heap.size + 1, 35, none⟩ (.slice p5 (n - 32) c5) = W := ⟨_, rfl⟩; obtain ⟨X2, hX2⟩ : ∃ X, { X1 with p := p5, n := n - 32, c := c5, da := zs.drop 32 } = X := ⟨_, rfl⟩; have HX2 := Lib.hid hX2; have HR4 : Hid (Rd w w4 w.heap.size (w.heap.size + 1) rq0 X2) := Lib.hid (by rw [← hw4, ← hX2]; exact HR3.out.setDa _ _ _ _); have HK4 := Lib.hid (keep_cell hw4); clear ho3 hg3 hX2)
        | (refine wpList_ld rfl _ _ rfl _ rfl _ (HR4.out.own.load HR4.out.dx) ?_)
        | (refine wpList_store_row rfl 27 _ _ rfl w.heap.size _ rfl rfl 27 _ HR4.out.out (Rq.sizeOf X2 HR4.out.dx) (Rq.sizes rq0 X2 rfl HR4.out.dx) (Rq.one X2) ?_; generalize hwZ : World.setRow _ _ _ = wZ; have HZ : Hid (Rd w wZ w.heap.size (w.heap.size + 1) X2 X2) := Lib.hid (by rw [← hwZ]; exact HR4.out.ans X2 HR4.out.dx); have HZK := Lib.hid (keep_row hwZ); clear hwZ))
      have HO4 := HO3.out.keepg (w' := wZ) fun g hg _ => (HZK.out g (by have := HR2.out.gt; omega)).trans (HK4.out g (by have := HR2.out.gt; omega))
      obtain ⟨f1, f2, f3, f4⟩ := HO4.at
      refine bodyPost_ret (HZ.out.out.res2 HZ.out.dy rfl _ rfl) rfl ?_
      exact RdQ.of X2 true (by rw [← HX2.out, ← HX1.out]; exact ⟨f1, f4, f2, f3, HDO.out, (Nat.zero_le 140737488355328 : (0 : Nat) ≤ 140737488355328), u64_zero, by show _ ≤ (2 : Int) ∧ (2 : Int) ≤ _; omega, i64_zero, i64_zero⟩) (RdP.isRec (by rw [HRN.out, ← HX2.out, ← HX1.out]; rfl)) HZ.out.le (by rw [← HX2.out, ← HX1.out]; exact HO4.mono (by have := HR2.out.le.size; omega))
  · by_cases h0 : n = 0
    · subst h0
      have HRN : Hid (readN 3 zs = none) := Lib.hid (by unfold readN; rw [if_neg (by omega)]; simp [HL.out])
      go_wp2_with (first
        | (refine wpList_ld rfl _ _ rfl _ rfl _ (HR.out.own.load HR.out.dx) ?_)
        | (refine wpList_store_row rfl 27 _ _ rfl w.heap.size _ rfl rfl 27 _ HR.out.out (Rq.sizeOf (rqK 3) HR.out.dx) (Rq.sizes rq0 (rqK 3) rfl HR.out.dx) (Rq.one (rqK 3)) ?_; generalize hwZ : World.setRow _ _ _ = wZ; have HZ : Hid (Rd w wZ w.heap.size (w.heap.size + 1) (rqK 3) (rqK 3)) := Lib.hid (by rw [← hwZ]; exact HR.out.ans (rqK 3) HR.out.dx); have HZK := Lib.hid (keep_row hwZ); clear hwZ))
      refine bodyPost_ret (HZ.out.out.res2 HZ.out.dy rfl _ rfl) rfl ?_
      exact RdQ.of (rqK 3) false (HFK.out _) (RdP.noRec HRN.out) HZ.out.le (Ob.nil _ _ _)
    · obtain ⟨b, off, hp, hc⟩ : ∃ b off, p = some ⟨b, off, none⟩ ∧ ∀ j, j < n → wS.cell? ⟨b, off + j, none⟩ = some (.int .u8 (zs.getD j 0)) := by
        rcases HB.out.2.2 with h1 | h1
        · omega
        · exact h1
      subst hp
      have hy := HBY.out 0
      obtain ⟨L, hL⟩ := Int.eq_ofNat_of_zero_le hy.1
      have hcell := hc 0 (by omega)
      rw [hL, Nat.add_zero] at hcell
      have HLN : Hid ((zs.getD 0 0).toNat = L) := Lib.hid (by rw [hL, Int.toNat_natCast])
      rw [hL] at hy
      have hyb : (L : Int) < 256 := hy.2
      have hwL : IntKind.i64.wrap (L : Int) = (L : Int) := by simp [IntKind.wrap, IntKind.bits, IntKind.signed]; omega
      obtain ⟨m, hm⟩ : ∃ m : Nat, 1 + L = m := ⟨_, rfl⟩
      have hm1 : 1 + (L : Int) = (m : Int) := by omega
      have HM := Lib.hid hm
      have hwm : IntKind.i64.wrap (1 + (L : Int)) = (m : Int) := by rw [hm1]; simp [IntKind.wrap, IntKind.bits, IntKind.signed]; omega
      have hn0 : ((n : Int) == 0) = false := by simp; omega
      have hn1 : 0 < (n : Int) := by omega
      have HNN := Lib.hid h0
      clear hc hy hL hm h0
      by_cases hlt : (n : Int) < (m : Int)
      · have HRN : Hid (readN 3 zs = none) := Lib.hid (by unfold readN; rw [if_neg (by omega)]; simp only [HL.out, HLN.out, Int.reduceEq, if_true, if_false]; rw [if_neg (by have := HNN.out; omega), if_pos (by have := HM.out; omega)])
        go_wp2_with (first
          | (refine wpList_ld rfl _ _ rfl _ rfl _ (HR.out.own.load HR.out.dx) ?_)
          | (refine wpList_store_row rfl 27 _ _ rfl w.heap.size _ rfl rfl 27 _ HR.out.out (Rq.sizeOf (rqK 3) HR.out.dx) (Rq.sizes rq0 (rqK 3) rfl HR.out.dx) (Rq.one (rqK 3)) ?_; generalize hwZ : World.setRow _ _ _ = wZ; have HZ : Hid (Rd w wZ w.heap.size (w.heap.size + 1) (rqK 3) (rqK 3)) := Lib.hid (by rw [← hwZ]; exact HR.out.ans (rqK 3) HR.out.dx); have HZK := Lib.hid (keep_row hwZ); clear hwZ))
        refine bodyPost_ret (HZ.out.out.res2 HZ.out.dy rfl _ rfl) rfl ?_
        exact RdQ.of (rqK 3) false (HFK.out _) (RdP.noRec HRN.out) HZ.out.le (Ob.nil _ _ _)
      · have hmn : m ≤ n := by omega
        have h1m : 1 ≤ m := by have := HM.out; omega
        obtain ⟨pa, hsa0, hba, _⟩ := H.out.slice_lh (P := Try.prog) 25 5 Try.underlying25 (fun _ => by kernel_rfl) c 1 m HNC.out h1m hmn
        have hsa : ∀ W', (Instr.slice 25 (.slice (some ⟨b, off, none⟩) n c) (some (.int .i64 1)) (some (.int .i64 (m : Int))) none).run Try.prog W' = .ok (.slice pa (m - 1) (c - 1)) W' := hsa0
        have hcv := (hba.later HR.out.le).run_string (P := Try.prog) 25 5 9 Try.underlying25 Try.underlying5 Try.underlying9 (c - 1)
        have HNB : Hid (Byt ((zs.drop 1).take (m - 1))) := Lib.hid hba.byte
        have HNL2 : Hid (((zs.drop 1).take (m - 1)).length = m - 1) := Lib.hid hba.len
        obtain ⟨pb, hsb, hbb, hpb⟩ := H.out.slice_from (P := Try.prog) 25 5 Try.underlying25 (fun _ => by kernel_rfl) c m HNC.out hmn
        have HPB := Lib.hid hbb
        obtain ⟨S, hS⟩ : ∃ S, strOfNums ((zs.drop 1).take (m - 1)) = S := ⟨_, rfl⟩
        rw [hS] at hcv
        have HSN : Hid (numsOf S = (zs.drop 1).take (m - 1)) := Lib.hid (by rw [← hS]; exact numsOf_strOfNums HNB.out)
        have HSS : Hid (S.size ≤ 140737488355328) := Lib.hid (by rw [← numsOf_length, HSN.out, HNL2.out]; omega)
        obtain ⟨q, hq⟩ : ∃ q, n - m = q := ⟨_, rfl⟩
        obtain ⟨cq, hcq⟩ : ∃ q, c - m = q := ⟨_, rfl⟩
        rw [hq, hcq] at hsb
        rw [hq] at HPB
        have HQ := Lib.hid hq
        obtain ⟨m1, hm1'⟩ : ∃ q, m - 1 = q := ⟨_, rfl⟩
        rw [hm1'] at hsa hcv
        have HM1 := Lib.hid hm1'
        have hqb : (q : Int) ≤ 2097152 := by omega
        obtain ⟨X1, hX1⟩ : ∃ X, { rqK 3 with nm := S } = X := ⟨_, rfl⟩
        have HX1 := Lib.hid hX1
        obtain ⟨w1, hw1⟩ : ∃ W, wS.setCell ⟨w.heap.size + 1, 34, none⟩ (.string S) = W := ⟨_, rfl⟩
        have HR1 : Hid (Rd w w1 w.heap.size (w.heap.size + 1) rq0 X1) := Lib.hid (by rw [← hw1, ← hX1]; exact HR.out.setNm S)
        have HF1 : Hid (∀ W, X1.Fit W) := Lib.hid fun W => by rw [← hX1]; exact ⟨Bs.empty _ _, fun _ => rfl, Nat.le_refl _, Nat.zero_le _, dok_zero, HSS.out, u64_zero, by show _ ≤ (3 : Int) ∧ (3 : Int) ≤ _; omega, i64_zero, i64_zero⟩
        have cl34 := (HR.out.own.cells HR.out.dx).2.2.1
        have fr34 := HR.out.own.frozen 34
        have HPB1 := Lib.hid (HPB.out.later HR1.out.le)
        clear hsa0 hba hbb hpb hS hq hcq hX1 hm1'
        by_cases hA : (q : Int) < 32
        · have HRN : Hid (readN 3 zs = none) := Lib.hid (by unfold readN; rw [if_neg (by omega)]; simp only [HL.out, HLN.out, Int.reduceEq, if_true, if_false]; rw [if_neg (by have := HNN.out; omega), if_pos (by have := HM.out; have := HQ.out; omega)])
          go_wp2_with (first
            | (refine wpList_ld rfl _ _ rfl _ rfl _ (HR1.out.own.load HR1.out.dx) ?_)
            | (refine wpList_store_row rfl 27 _ _ rfl w.heap.size _ rfl rfl 27 _ HR1.out.out (Rq.sizeOf X1 HR1.out.dx) (Rq.sizes rq0 X1 rfl HR1.out.dx) (Rq.one X1) ?_; generalize hwZ : World.setRow _ _ _ = wZ; have HZ : Hid (Rd w wZ w.heap.size (w.heap.size + 1) X1 X1) := Lib.hid (by rw [← hwZ]; exact HR1.out.ans X1 HR1.out.dx); have HZK := Lib.hid (keep_row hwZ); clear hwZ))
          refine bodyPost_ret (HZ.out.out.res2 HZ.out.dy rfl _ rfl) rfl ?_
          exact RdQ.of X1 false (HF1.out _) (RdP.noRec HRN.out) HZ.out.le (by rw [← HX1.out]; exact Ob.nil _ _ _)
        by_cases hB : (q : Int) > 32
        · have HRN : Hid (readN 3 zs = none) := Lib.hid (by unfold readN; rw [if_neg (by omega)]; simp only [HL.out, HLN.out, Int.reduceEq, if_true, if_false]; rw [if_neg (by have := HNN.out; omega), if_pos (by have := HM.out; have := HQ.out; omega)])
          go_wp2_with (first
            | (refine wpList_ld rfl _ _ rfl _ rfl _ (HR1.out.own.load HR1.out.dx) ?_)
            | (refine wpList_store_row rfl 27 _ _ rfl w.heap.size _ rfl rfl 27 _ HR1.out.out (Rq.sizeOf X1 HR1.out.dx) (Rq.sizes rq0 X1 rfl HR1.out.dx) (Rq.one X1) ?_; generalize hwZ : World.setRow _ _ _ = wZ; have HZ : Hid (Rd w wZ w.heap.size (w.heap.size + 1) X1 X1) := Lib.hid (by rw [← hwZ]; exact HR1.out.ans X1 HR1.out.dx); have HZK := Lib.hid (keep_row hwZ); clear hwZ))
          refine bodyPost_ret (HZ.out.out.res2 HZ.out.dy rfl _ rfl) rfl ?_
          exact RdQ.of X1 false (HF1.out _) (RdP.noRec HRN.out) HZ.out.le (by rw [← HX1.out]; exact Ob.nil _ _ _)
        · obtain rfl : q = 32 := by omega
          have HDE : Hid ((zs.drop m).take 32 = zs.drop m) := Lib.hid (List.take_of_length_le (by rw [List.length_drop, HL.out]; have := HQ.out; omega))
          have HDL : Hid ((zs.drop m).length = 32) := Lib.hid (by rw [List.length_drop, HL.out]; have := HQ.out; omega)
          have HRN : Hid (readN 3 zs = some ⟨3, 0, zs.drop m, (zs.drop 1).take (m - 1), [], 0, 0⟩) := Lib.hid (by unfold readN; rw [if_neg (by omega)]; simp only [HL.out, HLN.out, Int.reduceEq, if_true, if_false]; rw [if_neg (by have := HNN.out; omega), if_neg (by have := HM.out; have := HQ.out; omega), HM.out, show L = m - 1 by have := HM.out; omega])
          have HDO : Hid (dok (zs.drop m)) := Lib.hid ⟨HDL.out, HBY.out.drop _⟩
          obtain ⟨X2, hX2⟩ : ∃ X, { X1 with dg := zs.drop m } = X := ⟨_, rfl⟩
          have HX2 := Lib.hid hX2
          clear hX2
          go_wp2_with (first
            | (go_at_call 53; refine (HDG.out pb 32 cq _ _ HPB1.out (by omega) (by unfold maxLen; omega)).mono ?_; rintro e w2 ⟨rfl, hb2⟩; rw [HDE.out]; have HR2 := Lib.hid (HR1.out.later hb2); clear hb2)
            | (refine wpList_store_mid rfl 24 _ _ rfl (w.heap.size + 1) 2 _ rfl rfl (by rw [bcs_size, HDL.out]; exact Mx.there HR2.out.own 2 32 (by rw [HR2.out.dx]; simp [Rq.a, Rq.z])) (by rw [bcs_size, HDL.out]; exact size32) (bcs_one _) ?_; generalize hwD : World.setCells _ _ _ _ = w3; have HR3 : Hid (Rd w w3 w.heap.size (w.heap.size + 1) rq0 X2) := Lib.hid (by rw [← hwD]; rw [← HX2.out]; exact HR2.out.setDg _ HDL.out); have HKD := Lib.hid (keep_cells hwD); clear hwD)
            | (refine wpList_ld rfl _ _ rfl _ rfl _ (HR3.out.own.load HR3.out.dx) ?_)
            | (refine wpList_store_row rfl 27 _ _ rfl w.heap.size _ rfl rfl 27 _ HR3.out.out (Rq.sizeOf X2 HR3.out.dx) (Rq.sizes rq0 X2 rfl HR3.out.dx) (Rq.one X2) ?_; generalize hwZ : World.setRow _ _ _ = wZ; have HZ : Hid (Rd w wZ w.heap.size (w.heap.size + 1) X2 X2) := Lib.hid (by rw [← hwZ]; exact HR3.out.ans X2 HR3.out.dx); have HZK := Lib.hid (keep_row hwZ); clear hwZ))
          refine bodyPost_ret (HZ.out.out.res2 HZ.out.dy rfl _ rfl) rfl ?_
          exact RdQ.of X2 true (by rw [← HX2.out, ← HX1.out]; exact ⟨Bs.empty _ _, fun _ => rfl, Nat.le_refl _, Nat.zero_le _, HDO.out, HSS.out, u64_zero, by show _ ≤ (3 : Int) ∧ (3 : Int) ≤ _; omega, i64_zero, i64_zero⟩) (RdP.isRec (by rw [HRN.out, ← HX2.out, ← HX1.out]; unfold Rq.rc; dsimp only; rw [HSN.out]; rfl)) HZ.out.le (by rw [← HX2.out, ← HX1.out]; exact Ob.nil _ _ _)
  · by_cases h0 : n = 0
    · subst h0
      have HRN : Hid (readN 4 zs = none) := Lib.hid (by unfold readN; rw [if_neg (by omega)]; simp [HL.out])
      go_wp2_with (first
        | (refine wpList_ld rfl _ _ rfl _ rfl _ (HR.out.own.load HR.out.dx) ?_)
        | (refine wpList_store_row rfl 27 _ _ rfl w.heap.size _ rfl rfl 27 _ HR.out.out (Rq.sizeOf (rqK 4) HR.out.dx) (Rq.sizes rq0 (rqK 4) rfl HR.out.dx) (Rq.one (rqK 4)) ?_; generalize hwZ : World.setRow _ _ _ = wZ; have HZ : Hid (Rd w wZ w.heap.size (w.heap.size + 1) (rqK 4) (rqK 4)) := Lib.hid (by rw [← hwZ]; exact HR.out.ans (rqK 4) HR.out.dx); have HZK := Lib.hid (keep_row hwZ); clear hwZ))
      refine bodyPost_ret (HZ.out.out.res2 HZ.out.dy rfl _ rfl) rfl ?_
      exact RdQ.of (rqK 4) false (HFK.out _) (RdP.noRec HRN.out) HZ.out.le (Ob.nil _ _ _)
    · obtain ⟨b, off, hp, hc⟩ : ∃ b off, p = some ⟨b, off, none⟩ ∧ ∀ j, j < n → wS.cell? ⟨b, off + j, none⟩ = some (.int .u8 (zs.getD j 0)) := by
        rcases HB.out.2.2 with h1 | h1
        · omega
        · exact h1
      subst hp
      have hy := HBY.out 0
      obtain ⟨L, hL⟩ := Int.eq_ofNat_of_zero_le hy.1
      have hcell := hc 0 (by omega)
      rw [hL, Nat.add_zero] at hcell
      have HLN : Hid ((zs.getD 0 0).toNat = L) := Lib.hid (by rw [hL, Int.toNat_natCast])
      rw [hL] at hy
      have hyb : (L : Int) < 256 := hy.2
      have hwL : IntKind.i64.wrap (L : Int) = (L : Int) := by simp [IntKind.wrap, IntKind.bits, IntKind.signed]; omega
      obtain ⟨m, hm⟩ : ∃ m : Nat, 1 + L = m := ⟨_, rfl⟩
      have hm1 : 1 + (L : Int) = (m : Int) := by omega
      have HM := Lib.hid hm
      have hwm : IntKind.i64.wrap (1 + (L : Int)) = (m : Int) := by rw [hm1]; simp [IntKind.wrap, IntKind.bits, IntKind.signed]; omega
      have hn0 : ((n : Int) == 0) = false := by simp; omega
      have hn1 : 0 < (n : Int) := by omega
      have HNN := Lib.hid h0
      clear hc hy hL hm h0
      by_cases hlt : (n : Int) < (m : Int)
      · have HRN : Hid (readN 4 zs = none) := Lib.hid (by unfold readN; rw [if_neg (by omega)]; simp only [HL.out, HLN.out, Int.reduceEq, if_true, if_false]; rw [if_neg (by have := HNN.out; omega), if_pos (by have := HM.out; omega)])
        go_wp2_with (first
          | (refine wpList_ld rfl _ _ rfl _ rfl _ (HR.out.own.load HR.out.dx) ?_)
          | (refine wpList_store_row rfl 27 _ _ rfl w.heap.size _ rfl rfl 27 _ HR.out.out (Rq.sizeOf (rqK 4) HR.out.dx) (Rq.sizes rq0 (rqK 4) rfl HR.out.dx) (Rq.one (rqK 4)) ?_; generalize hwZ : World.setRow _ _ _ = wZ; have HZ : Hid (Rd w wZ w.heap.size (w.heap.size + 1) (rqK 4) (rqK 4)) := Lib.hid (by rw [← hwZ]; exact HR.out.ans (rqK 4) HR.out.dx); have HZK := Lib.hid (keep_row hwZ); clear hwZ))
        refine bodyPost_ret (HZ.out.out.res2 HZ.out.dy rfl _ rfl) rfl ?_
        exact RdQ.of (rqK 4) false (HFK.out _) (RdP.noRec HRN.out) HZ.out.le (Ob.nil _ _ _)
      · have hmn : m ≤ n := by omega
        have h1m : 1 ≤ m := by have := HM.out; omega
        obtain ⟨pa, hsa0, hba, _⟩ := H.out.slice_lh (P := Try.prog) 25 5 Try.underlying25 (fun _ => by kernel_rfl) c 1 m HNC.out h1m hmn
        have hsa : ∀ W', (Instr.slice 25 (.slice (some ⟨b, off, none⟩) n c) (some (.int .i64 1)) (some (.int .i64 (m : Int))) none).run Try.prog W' = .ok (.slice pa (m - 1) (c - 1)) W' := hsa0
        have hcv := (hba.later HR.out.le).run_string (P := Try.prog) 25 5 9 Try.underlying25 Try.underlying5 Try.underlying9 (c - 1)
        have HNB : Hid (Byt ((zs.drop 1).take (m - 1))) := Lib.hid hba.byte
        have HNL2 : Hid (((zs.drop 1).take (m - 1)).length = m - 1) := Lib.hid hba.len
        obtain ⟨pb, hsb, hbb, hpb⟩ := H.out.slice_from (P := Try.prog) 25 5 Try.underlying25 (fun _ => by kernel_rfl) c m HNC.out hmn
        have HPB := Lib.hid hbb
        obtain ⟨S, hS⟩ : ∃ S, strOfNums ((zs.drop 1).take (m - 1)) = S := ⟨_, rfl⟩
        rw [hS] at hcv
        have HSN : Hid (numsOf S = (zs.drop 1).take (m - 1)) := Lib.hid (by rw [← hS]; exact numsOf_strOfNums HNB.out)
        have HSS : Hid (S.size ≤ 140737488355328) := Lib.hid (by rw [← numsOf_length, HSN.out, HNL2.out]; omega)
        obtain ⟨q, hq⟩ : ∃ q, n - m = q := ⟨_, rfl⟩
        obtain ⟨cq, hcq⟩ : ∃ q, c - m = q := ⟨_, rfl⟩
        rw [hq, hcq] at hsb
        rw [hq] at HPB
        have HQ := Lib.hid hq
        obtain ⟨m1, hm1'⟩ : ∃ q, m - 1 = q := ⟨_, rfl⟩
        rw [hm1'] at hsa hcv
        have HM1 := Lib.hid hm1'
        have hqb : (q : Int) ≤ 2097152 := by omega
        obtain ⟨X1, hX1⟩ : ∃ X, { rqK 4 with nm := S } = X := ⟨_, rfl⟩
        have HX1 := Lib.hid hX1
        obtain ⟨w1, hw1⟩ : ∃ W, wS.setCell ⟨w.heap.size + 1, 34, none⟩ (.string S) = W := ⟨_, rfl⟩
        have HR1 : Hid (Rd w w1 w.heap.size (w.heap.size + 1) rq0 X1) := Lib.hid (by rw [← hw1, ← hX1]; exact HR.out.setNm S)
        have HF1 : Hid (∀ W, X1.Fit W) := Lib.hid fun W => by rw [← hX1]; exact ⟨Bs.empty _ _, fun _ => rfl, Nat.le_refl _, Nat.zero_le _, dok_zero, HSS.out, u64_zero, by show _ ≤ (4 : Int) ∧ (4 : Int) ≤ _; omega, i64_zero, i64_zero⟩
        have cl34 := (HR.out.own.cells HR.out.dx).2.2.1
        have fr34 := HR.out.own.frozen 34
        have HPB1 := Lib.hid (HPB.out.later HR1.out.le)
        clear hsa0 hba hbb hpb hS hq hcq hX1 hm1'
        by_cases hA : q = 0
        · subst hA
          have HDE : Hid ((zs.drop 1).take (m - 1) = zs.drop 1) := Lib.hid (List.take_of_length_le (by rw [List.length_drop, HL.out]; have := HQ.out; omega))
          have HRN : Hid (readN 4 zs = some ⟨4, 0, dg0, (zs.drop 1).take (m - 1), [], 0, 0⟩) := Lib.hid (by unfold readN; rw [if_neg (by omega)]; simp only [HL.out, HLN.out, Int.reduceEq, if_true, if_false]; rw [if_neg (by have := HNN.out; omega), if_neg (by have := HM.out; have := HQ.out; omega), HDE.out])
          go_wp2_with (first
            | (refine wpList_ld rfl _ _ rfl _ rfl _ (HR1.out.own.load HR1.out.dx) ?_)
            | (refine wpList_store_row rfl 27 _ _ rfl w.heap.size _ rfl rfl 27 _ HR1.out.out (Rq.sizeOf X1 HR1.out.dx) (Rq.sizes rq0 X1 rfl HR1.out.dx) (Rq.one X1) ?_; generalize hwZ : World.setRow _ _ _ = wZ; have HZ : Hid (Rd w wZ w.heap.size (w.heap.size + 1) X1 X1) := Lib.hid (by rw [← hwZ]; exact HR1.out.ans X1 HR1.out.dx); have HZK := Lib.hid (keep_row hwZ); clear hwZ))
          refine bodyPost_ret (HZ.out.out.res2 HZ.out.dy rfl _ rfl) rfl ?_
          exact RdQ.of X1 true (HF1.out _) (RdP.isRec (by rw [HRN.out, ← HX1.out]; unfold Rq.rc; dsimp only; rw [HSN.out]; rfl)) HZ.out.le (by rw [← HX1.out]; exact Ob.nil _ _ _)
        · have hq0 : ((q : Int) == 0) = false := by simp; omega
          have HRN : Hid (readN 4 zs = none) := Lib.hid (by unfold readN; rw [if_neg (by omega)]; simp only [HL.out, HLN.out, Int.reduceEq, if_true, if_false]; rw [if_neg (by have := HNN.out; omega), if_pos (by have := HM.out; have := HQ.out; omega)])
          clear hA
          go_wp2_with (first
            | (refine wpList_ld rfl _ _ rfl _ rfl _ (HR1.out.own.load HR1.out.dx) ?_)
            | (refine wpList_store_row rfl 27 _ _ rfl w.heap.size _ rfl rfl 27 _ HR1.out.out (Rq.sizeOf X1 HR1.out.dx) (Rq.sizes rq0 X1 rfl HR1.out.dx) (Rq.one X1) ?_; generalize hwZ : World.setRow _ _ _ = wZ; have HZ : Hid (Rd w wZ w.heap.size (w.heap.size + 1) X1 X1) := Lib.hid (by rw [← hwZ]; exact HR1.out.ans X1 HR1.out.dx); have HZK := Lib.hid (keep_row hwZ); clear hwZ))
          refine bodyPost_ret (HZ.out.out.res2 HZ.out.dy rfl _ rfl) rfl ?_
          exact RdQ.of X1 false (HF1.out _) (RdP.noRec HRN.out) HZ.out.le (by rw [← HX1.out]; exact Ob.nil _ _ _)
  · by_cases hA : (n : Int) < 32
    · have HRN : Hid (readN 5 zs = none) := Lib.hid (by unfold readN; rw [if_neg (by omega)]; simp only [HL.out, Int.reduceEq, if_true, if_false]; rw [if_pos (by omega)])
      go_wp2_with (first
        | (refine wpList_ld rfl _ _ rfl _ rfl _ (HR.out.own.load HR.out.dx) ?_)
        | (refine wpList_store_row rfl 27 _ _ rfl w.heap.size _ rfl rfl 27 _ HR.out.out (Rq.sizeOf (rqK 5) HR.out.dx) (Rq.sizes rq0 (rqK 5) rfl HR.out.dx) (Rq.one (rqK 5)) ?_; generalize hwZ : World.setRow _ _ _ = wZ; have HZ : Hid (Rd w wZ w.heap.size (w.heap.size + 1) (rqK 5) (rqK 5)) := Lib.hid (by rw [← hwZ]; exact HR.out.ans (rqK 5) HR.out.dx); have HZK := Lib.hid (keep_row hwZ); clear hwZ))
      refine bodyPost_ret (HZ.out.out.res2 HZ.out.dy rfl _ rfl) rfl ?_
      exact RdQ.of (rqK 5) false (HFK.out _) (RdP.noRec HRN.out) HZ.out.le (Ob.nil _ _ _)
    by_cases hB : (n : Int) > 32
    · have HRN : Hid (readN 5 zs = none) := Lib.hid (by unfold readN; rw [if_neg (by omega)]; simp only [HL.out, Int.reduceEq, if_true, if_false]; rw [if_pos (by omega)])
      go_wp2_with (first
        | (refine wpList_ld rfl _ _ rfl _ rfl _ (HR.out.own.load HR.out.dx) ?_)
        | (refine wpList_store_row rfl 27 _ _ rfl w.heap.size _ rfl rfl 27 _ HR.out.out (Rq.sizeOf (rqK 5) HR.out.dx) (Rq.sizes rq0 (rqK 5) rfl HR.out.dx) (Rq.one (rqK 5)) ?_; generalize hwZ : World.setRow _ _ _ = wZ; have HZ : Hid (Rd w wZ w.heap.size (w.heap.size + 1) (rqK 5) (rqK 5)) := Lib.hid (by rw [← hwZ]; exact HR.out.ans (rqK 5) HR.out.dx); have HZK := Lib.hid (keep_row hwZ); clear hwZ))
      refine bodyPost_ret (HZ.out.out.res2 HZ.out.dy rfl _ rfl) rfl ?_
      exact RdQ.of (rqK 5) false (HFK.out _) (RdP.noRec HRN.out) HZ.out.le (Ob.nil _ _ _)
    · obtain rfl : n = 32 := by omega
      have HDE : Hid (zs.take 32 = zs) := Lib.hid (List.take_of_length_le (by rw [HL.out]; omega))
      have HDL : Hid (zs.length = 32) := Lib.hid HL.out
      have HRN : Hid (readN 5 zs = some ⟨5, 0, zs, [], [], 0, 0⟩) := Lib.hid (by unfold readN; rw [if_neg (by omega)]; simp [HL.out])
      have HDO : Hid (dok zs) := Lib.hid ⟨HDL.out, HBY.out⟩
      obtain ⟨X2, hX2⟩ : ∃ X, { rqK 5 with dg := zs } = X := ⟨_, rfl⟩
      have HX2 := Lib.hid hX2
      clear hX2
      go_wp2_with (first
        | (go_at_call 53; refine (HDG.out p 32 c zs _ HB.out (by omega) hnm).mono ?_; rintro e w2 ⟨rfl, hb2⟩; rw [HDE.out]; have HR2 := Lib.hid (HR.out.later hb2); clear hb2)
        | (refine wpList_store_mid rfl 24 _ _ rfl (w.heap.size + 1) 2 _ rfl rfl (by rw [bcs_size, HDL.out]; exact Mx.there HR2.out.own 2 32 (by rw [HR2.out.dx]; simp [Rq.a, Rq.z])) (by rw [bcs_size, HDL.out]; exact size32) (bcs_one _) ?_; generalize hwD : World.setCells _ _ _ _ = w3; have HR3 : Hid (Rd w w3 w.heap.size (w.heap.size + 1) rq0 X2) := Lib.hid (by rw [← hwD]; rw [← HX2.out]; exact HR2.out.setDg _ HDL.out); have HKD := Lib.hid (keep_cells hwD); clear hwD)
        | (refine wpList_ld rfl _ _ rfl _ rfl _ (HR3.out.own.load HR3.out.dx) ?_)
        | (refine wpList_store_row rfl 27 _ _ rfl w.heap.size _ rfl rfl 27 _ HR3.out.out (Rq.sizeOf X2 HR3.out.dx) (Rq.sizes rq0 X2 rfl HR3.out.dx) (Rq.one X2) ?_; generalize hwZ : World.setRow _ _ _ = wZ; have HZ : Hid (Rd w wZ w.heap.size (w.heap.size + 1) X2 X2) := Lib.hid (by rw [← hwZ]; exact HR3.out.ans X2 HR3.out.dx); have HZK := Lib.hid (keep_row hwZ); clear hwZ))
      refine bodyPost_ret (HZ.out.out.res2 HZ.out.dy rfl _ rfl) rfl ?_
      exact RdQ.of X2 true (by rw [← HX2.out]; exact ⟨Bs.empty _ _, fun _ => rfl, Nat.le_refl _, Nat.zero_le _, HDO.out, (Nat.zero_le 140737488355328 : (0 : Nat) ≤ 140737488355328), u64_zero, by show _ ≤ (5 : Int) ∧ (5 : Int) ≤ _; omega, i64_zero, i64_zero⟩) (RdP.isRec (by rw [HRN.out, ← HX2.out]; rfl)) HZ.out.le (by rw [← HX2.out]; exact Ob.nil _ _ _)
  · by_cases hA : n = 8
    · subst hA
      have HRN : Hid (readN 6 zs = some ⟨6, 0, dg0, [], [], leN zs 0 4, leN zs 4 4⟩) := Lib.hid (by unfold readN; rw [if_neg (by omega)]; simp [HL.out])
      have HT1 := Lib.hid (HTK.out _ HB.out 0 4 (by omega) (by omega) (by omega))
      have hb1 := leN_bd zs HBY.out 0 4
      have hb2 := leN_bd zs HBY.out 4 4
      obtain ⟨x, hx⟩ : ∃ x, leN zs 0 4 = x := ⟨_, rfl⟩
      obtain ⟨y, hy⟩ : ∃ x, leN zs 4 4 = x := ⟨_, rfl⟩
      rw [hx] at hb1 HT1 HRN
      rw [hy] at hb2 HRN
      have hx0 : 0 ≤ x ∧ x < 4294967296 := by simpa using hb1
      have hy0 : 0 ≤ y ∧ y < 4294967296 := by simpa using hb2
      have hwx : IntKind.i64.wrap x = x := by simp [IntKind.wrap, IntKind.bits, IntKind.signed]; omega
      have hwy : IntKind.i64.wrap y = y := by simp [IntKind.wrap, IntKind.bits, IntKind.signed]; omega
      have HY := Lib.hid hy
      obtain ⟨X1, hX1⟩ : ∃ X, { rqK 6 with N := x } = X := ⟨_, rfl⟩
      obtain ⟨X2, hX2⟩ : ∃ X, { X1 with Z := y } = X := ⟨_, rfl⟩
      have HX1 := Lib.hid hX1
      have HX2 := Lib.hid hX2
      obtain ⟨w1, hw1⟩ : ∃ W, wS.setCell ⟨w.heap.size + 1, 36, none⟩ (.int .i64 x) = W := ⟨_, rfl⟩
      have HR1 : Hid (Rd w w1 w.heap.size (w.heap.size + 1) rq0 X1) := Lib.hid (by rw [← hw1, ← hX1]; exact HR.out.setN x)
      obtain ⟨w2, hw2⟩ : ∃ W, w1.setCell ⟨w.heap.size + 1, 37, none⟩ (.int .i64 y) = W := ⟨_, rfl⟩
      have HR2 : Hid (Rd w w2 w.heap.size (w.heap.size + 1) rq0 X2) := Lib.hid (by rw [← hw2, ← hX2]; exact HR1.out.setZ y)
      have HT2 := Lib.hid (HTK.out _ HB.out 4 4 (by omega) (by omega) (by omega))
      rw [HY.out] at HT2
      have cl36 := (HR.out.own.cells HR.out.dx).2.2.2.2.1
      have fr36 := HR.out.own.frozen 36
      have cl37 := (HR1.out.own.cells HR1.out.dx).2.2.2.2.2
      have fr37 := HR1.out.own.frozen 37
      clear hx hy hX1 hX2 hb1 hb2
      go_wp2_with (first
        | (go_at_call 52; (fail_if_success (have hh := HU1.out)); refine HT1.out.mono ?_; rintro e w3 ⟨rfl, rfl⟩; have HU1 : Hid True := Lib.hid trivial)
        | (go_at_call 52; refine HT2.out.mono ?_; rintro e w3 ⟨rfl, rfl⟩)
        | (refine wpList_ld rfl _ _ rfl _ rfl _ (HR2.out.own.load HR2.out.dx) ?_)
        | (refine wpList_store_row rfl 27 _ _ rfl w.heap.size _ rfl rfl 27 _ HR2.out.out (Rq.sizeOf X2 HR2.out.dx) (Rq.sizes rq0 X2 rfl HR2.out.dx) (Rq.one X2) ?_; generalize hwZ : World.setRow _ _ _ = wZ; have HZ : Hid (Rd w wZ w.heap.size (w.heap.size + 1) X2 X2) := Lib.hid (by rw [← hwZ]; exact HR2.out.ans X2 HR2.out.dx); have HZK := Lib.hid (keep_row hwZ); clear hwZ))
      refine bodyPost_ret (HZ.out.out.res2 HZ.out.dy rfl _ rfl) rfl ?_
      exact RdQ.of X2 true (by rw [← HX2.out, ← HX1.out]; exact ⟨Bs.empty _ _, fun _ => rfl, Nat.le_refl _, Nat.zero_le _, dok_zero, (Nat.zero_le 140737488355328 : (0 : Nat) ≤ 140737488355328), u64_zero, by show _ ≤ (6 : Int) ∧ (6 : Int) ≤ _; omega, by show _ ≤ x ∧ x ≤ _; omega, by show _ ≤ y ∧ y ≤ _; omega⟩) (RdP.isRec (by rw [HRN.out, ← HX2.out, ← HX1.out]; rfl)) HZ.out.le (by rw [← HX2.out, ← HX1.out]; exact Ob.nil _ _ _)
    · have hne : ((n : Int) != 8) = true := by simp; omega
      have HRN : Hid (readN 6 zs = none) := Lib.hid (by unfold readN; rw [if_neg (by omega)]; simp only [HL.out, Int.reduceEq, if_true, if_false]; rw [if_pos (by omega)])
      clear hA
      go_wp2_with (first
        | (refine wpList_ld rfl _ _ rfl _ rfl _ (HR.out.own.load HR.out.dx) ?_)
        | (refine wpList_store_row rfl 27 _ _ rfl w.heap.size _ rfl rfl 27 _ HR.out.out (Rq.sizeOf (rqK 6) HR.out.dx) (Rq.sizes rq0 (rqK 6) rfl HR.out.dx) (Rq.one (rqK 6)) ?_; generalize hwZ : World.setRow _ _ _ = wZ; have HZ : Hid (Rd w wZ w.heap.size (w.heap.size + 1) (rqK 6) (rqK 6)) := Lib.hid (by rw [← hwZ]; exact HR.out.ans (rqK 6) HR.out.dx); have HZK := Lib.hid (keep_row hwZ); clear hwZ))
      refine bodyPost_ret (HZ.out.out.res2 HZ.out.dy rfl _ rfl) rfl ?_
      exact RdQ.of (rqK 6) false (HFK.out _) (RdP.noRec HRN.out) HZ.out.le (Ob.nil _ _ _)
  · by_cases hA : n = 16
    · subst hA
      obtain ⟨pt, hst0, hbt, hpt⟩ := H.out.slice_to (P := Try.prog) 25 5 Try.underlying25 (fun _ => by kernel_rfl) c 8 HNC.out (by omega)
      have hst : ∀ W', (Instr.slice 25 (.slice p 16 c) none (some (.int .i64 8)) none).run Try.prog W' = .ok (.slice pt 8 c) W' := hst0
      have hcv := (hbt.later HR.out.le).run_string (P := Try.prog) 25 5 9 Try.underlying25 Try.underlying5 Try.underlying9 c
      have htt := text_test (strOfNums (zs.take 8)) [115, 116, 105, 108, 108, 97, 103, 101] magN rfl
      rw [numsOf_strOfNums hbt.byte] at htt
      obtain ⟨S, hS⟩ : ∃ S, strOfNums (zs.take 8) = S := ⟨_, rfl⟩
      rw [hS] at hcv htt
      clear hst0 hbt hpt hS
      by_cases hB : zs.take 8 = magN
      · rw [decide_eq_true hB] at htt
        have HBE := Lib.hid hB
        have HRN : Hid (readN 7 zs = some ⟨7, 0, dg0, [], [], if leN zs 8 8 < 4294967296 then leN zs 8 8 else 0, 0⟩) := Lib.hid (by unfold readN; rw [if_neg (by omega)]; simp only [HL.out, HBE.out, Int.reduceEq, if_true, if_false]; rw [if_neg (by omega), if_neg (by simp)])
        have HT1 := Lib.hid (HTK.out _ HB.out 8 8 (by omega) (by omega) (by omega))
        have hb1 := leN_bd zs HBY.out 8 8
        obtain ⟨x, hx⟩ : ∃ x, leN zs 8 8 = x := ⟨_, rfl⟩
        rw [hx] at hb1 HT1 HRN
        have hx0 : 0 ≤ x ∧ x < 18446744073709551616 := by simpa using hb1
        clear hx hb1 hB
        by_cases hC : x < 4294967296
        · rw [if_pos hC] at HRN
          have hwx : IntKind.i64.wrap x = x := by simp [IntKind.wrap, IntKind.bits, IntKind.signed]; omega
          obtain ⟨X1, hX1⟩ : ∃ X, { rqK 7 with N := x } = X := ⟨_, rfl⟩
          have HX1 := Lib.hid hX1
          obtain ⟨w1, hw1⟩ : ∃ W, wS.setCell ⟨w.heap.size + 1, 36, none⟩ (.int .i64 x) = W := ⟨_, rfl⟩
          have HR1 : Hid (Rd w w1 w.heap.size (w.heap.size + 1) rq0 X1) := Lib.hid (by rw [← hw1, ← hX1]; exact HR.out.setN x)
          have cl36 := (HR.out.own.cells HR.out.dx).2.2.2.2.1
          have fr36 := HR.out.own.frozen 36
          clear hX1
          go_wp2_with (first
            | (go_at_call 52; refine HT1.out.mono ?_; rintro e w3 ⟨rfl, rfl⟩)
            | (refine wpList_ld rfl _ _ rfl _ rfl _ (HR1.out.own.load HR1.out.dx) ?_)
            | (refine wpList_store_row rfl 27 _ _ rfl w.heap.size _ rfl rfl 27 _ HR1.out.out (Rq.sizeOf X1 HR1.out.dx) (Rq.sizes rq0 X1 rfl HR1.out.dx) (Rq.one X1) ?_; generalize hwZ : World.setRow _ _ _ = wZ; have HZ : Hid (Rd w wZ w.heap.size (w.heap.size + 1) X1 X1) := Lib.hid (by rw [← hwZ]; exact HR1.out.ans X1 HR1.out.dx); have HZK := Lib.hid (keep_row hwZ); clear hwZ))
          refine bodyPost_ret (HZ.out.out.res2 HZ.out.dy rfl _ rfl) rfl ?_
          exact RdQ.of X1 true (by rw [← HX1.out]; exact ⟨Bs.empty _ _, fun _ => rfl, Nat.le_refl _, Nat.zero_le _, dok_zero, (Nat.zero_le 140737488355328 : (0 : Nat) ≤ 140737488355328), u64_zero, by show _ ≤ (7 : Int) ∧ (7 : Int) ≤ _; omega, by show _ ≤ x ∧ x ≤ _; omega, i64_zero⟩) (RdP.isRec (by rw [HRN.out, ← HX1.out]; rfl)) HZ.out.le (by rw [← HX1.out]; exact Ob.nil _ _ _)
        · rw [if_neg hC] at HRN
          go_wp2_with (first
            | (go_at_call 52; refine HT1.out.mono ?_; rintro e w3 ⟨rfl, rfl⟩)
            | (refine wpList_ld rfl _ _ rfl _ rfl _ (HR.out.own.load HR.out.dx) ?_)
            | (refine wpList_store_row rfl 27 _ _ rfl w.heap.size _ rfl rfl 27 _ HR.out.out (Rq.sizeOf (rqK 7) HR.out.dx) (Rq.sizes rq0 (rqK 7) rfl HR.out.dx) (Rq.one (rqK 7)) ?_; generalize hwZ : World.setRow _ _ _ = wZ; have HZ : Hid (Rd w wZ w.heap.size (w.heap.size + 1) (rqK 7) (rqK 7)) := Lib.hid (by rw [← hwZ]; exact HR.out.ans (rqK 7) HR.out.dx); have HZK := Lib.hid (keep_row hwZ); clear hwZ))
          refine bodyPost_ret (HZ.out.out.res2 HZ.out.dy rfl _ rfl) rfl ?_
          exact RdQ.of (rqK 7) true (HFK.out _) (RdP.isRec HRN.out) HZ.out.le (Ob.nil _ _ _)
      · rw [decide_eq_false hB] at htt
        have HBE := Lib.hid hB
        have HRN : Hid (readN 7 zs = none) := Lib.hid (by unfold readN; rw [if_neg (by omega)]; simp only [HL.out, Int.reduceEq, if_true, if_false]; rw [if_neg (by omega), if_pos HBE.out])
        clear hB
        go_wp2_with (first
          | (refine wpList_ld rfl _ _ rfl _ rfl _ (HR.out.own.load HR.out.dx) ?_)
          | (refine wpList_store_row rfl 27 _ _ rfl w.heap.size _ rfl rfl 27 _ HR.out.out (Rq.sizeOf (rqK 7) HR.out.dx) (Rq.sizes rq0 (rqK 7) rfl HR.out.dx) (Rq.one (rqK 7)) ?_; generalize hwZ : World.setRow _ _ _ = wZ; have HZ : Hid (Rd w wZ w.heap.size (w.heap.size + 1) (rqK 7) (rqK 7)) := Lib.hid (by rw [← hwZ]; exact HR.out.ans (rqK 7) HR.out.dx); have HZK := Lib.hid (keep_row hwZ); clear hwZ))
        refine bodyPost_ret (HZ.out.out.res2 HZ.out.dy rfl _ rfl) rfl ?_
        exact RdQ.of (rqK 7) false (HFK.out _) (RdP.noRec HRN.out) HZ.out.le (Ob.nil _ _ _)
    · have hne : ((n : Int) != 16) = true := by simp; omega
      have HRN : Hid (readN 7 zs = none) := Lib.hid (by unfold readN; rw [if_neg (by omega)]; simp only [HL.out, Int.reduceEq, if_true, if_false]; rw [if_pos (by omega)])
      clear hA
      go_wp2_with (first
        | (refine wpList_ld rfl _ _ rfl _ rfl _ (HR.out.own.load HR.out.dx) ?_)
        | (refine wpList_store_row rfl 27 _ _ rfl w.heap.size _ rfl rfl 27 _ HR.out.out (Rq.sizeOf (rqK 7) HR.out.dx) (Rq.sizes rq0 (rqK 7) rfl HR.out.dx) (Rq.one (rqK 7)) ?_; generalize hwZ : World.setRow _ _ _ = wZ; have HZ : Hid (Rd w wZ w.heap.size (w.heap.size + 1) (rqK 7) (rqK 7)) := Lib.hid (by rw [← hwZ]; exact HR.out.ans (rqK 7) HR.out.dx); have HZK := Lib.hid (keep_row hwZ); clear hwZ))
      refine bodyPost_ret (HZ.out.out.res2 HZ.out.dy rfl _ rfl) rfl ?_
      exact RdQ.of (rqK 7) false (HFK.out _) (RdP.noRec HRN.out) HZ.out.le (Ob.nil _ _ _)
  · by_cases hA : n = 8
    · subst hA
      have HRN : Hid (readN 8 zs = some ⟨8, 0, dg0, [], [], leN zs 0 4, leN zs 4 4⟩) := Lib.hid (by unfold readN; rw [if_neg (by omega)]; simp [HL.out])
      have HT1 := Lib.hid (HTK.out _ HB.out 0 4 (by omega) (by omega) (by omega))
      have hb1 := leN_bd zs HBY.out 0 4
      have hb2 := leN_bd zs HBY.out 4 4
      obtain ⟨x, hx⟩ : ∃ x, leN zs 0 4 = x := ⟨_, rfl⟩
      obtain ⟨y, hy⟩ : ∃ x, leN zs 4 4 = x := ⟨_, rfl⟩
      rw [hx] at hb1 HT1 HRN
      rw [hy] at hb2 HRN
      have hx0 : 0 ≤ x ∧ x < 4294967296 := by simpa using hb1
      have hy0 : 0 ≤ y ∧ y < 4294967296 := by simpa using hb2
      have hwx : IntKind.i64.wrap x = x := by simp [IntKind.wrap, IntKind.bits, IntKind.signed]; omega
      have hwy : IntKind.i64.wrap y = y := by simp [IntKind.wrap, IntKind.bits, IntKind.signed]; omega
      have HY := Lib.hid hy
      obtain ⟨X1, hX1⟩ : ∃ X, { rqK 8 with N := x } = X := ⟨_, rfl⟩
      obtain ⟨X2, hX2⟩ : ∃ X, { X1 with Z := y } = X := ⟨_, rfl⟩
      have HX1 := Lib.hid hX1
      have HX2 := Lib.hid hX2
      obtain ⟨w1, hw1⟩ : ∃ W, wS.setCell ⟨w.heap.size + 1, 36, none⟩ (.int .i64 x) = W := ⟨_, rfl⟩
      have HR1 : Hid (Rd w w1 w.heap.size (w.heap.size + 1) rq0 X1) := Lib.hid (by rw [← hw1, ← hX1]; exact HR.out.setN x)
      obtain ⟨w2, hw2⟩ : ∃ W, w1.setCell ⟨w.heap.size + 1, 37, none⟩ (.int .i64 y) = W := ⟨_, rfl⟩
      have HR2 : Hid (Rd w w2 w.heap.size (w.heap.size + 1) rq0 X2) := Lib.hid (by rw [← hw2, ← hX2]; exact HR1.out.setZ y)
      have HT2 := Lib.hid (HTK.out _ HB.out 4 4 (by omega) (by omega) (by omega))
      rw [HY.out] at HT2
      have cl36 := (HR.out.own.cells HR.out.dx).2.2.2.2.1
      have fr36 := HR.out.own.frozen 36
      have cl37 := (HR1.out.own.cells HR1.out.dx).2.2.2.2.2
      have fr37 := HR1.out.own.frozen 37
      clear hx hy hX1 hX2 hb1 hb2
      go_wp2_with (first
        | (go_at_call 52; (fail_if_success (have hh := HU1.out)); refine HT1.out.mono ?_; rintro e w3 ⟨rfl, rfl⟩; have HU1 : Hid True := Lib.hid trivial)
        | (go_at_call 52; refine HT2.out.mono ?_; rintro e w3 ⟨rfl, rfl⟩)
        | (refine wpList_ld rfl _ _ rfl _ rfl _ (HR2.out.own.load HR2.out.dx) ?_)
        | (refine wpList_store_row rfl 27 _ _ rfl w.heap.size _ rfl rfl 27 _ HR2.out.out (Rq.sizeOf X2 HR2.out.dx) (Rq.sizes rq0 X2 rfl HR2.out.dx) (Rq.one X2) ?_; generalize hwZ : World.setRow _ _ _ = wZ; have HZ : Hid (Rd w wZ w.heap.size (w.heap.size + 1) X2 X2) := Lib.hid (by rw [← hwZ]; exact HR2.out.ans X2 HR2.out.dx); have HZK := Lib.hid (keep_row hwZ); clear hwZ))
      refine bodyPost_ret (HZ.out.out.res2 HZ.out.dy rfl _ rfl) rfl ?_
      exact RdQ.of X2 true (by rw [← HX2.out, ← HX1.out]; exact ⟨Bs.empty _ _, fun _ => rfl, Nat.le_refl _, Nat.zero_le _, dok_zero, (Nat.zero_le 140737488355328 : (0 : Nat) ≤ 140737488355328), u64_zero, by show _ ≤ (8 : Int) ∧ (8 : Int) ≤ _; omega, by show _ ≤ x ∧ x ≤ _; omega, by show _ ≤ y ∧ y ≤ _; omega⟩) (RdP.isRec (by rw [HRN.out, ← HX2.out, ← HX1.out]; rfl)) HZ.out.le (by rw [← HX2.out, ← HX1.out]; exact Ob.nil _ _ _)
    · have hne : ((n : Int) != 8) = true := by simp; omega
      have HRN : Hid (readN 8 zs = none) := Lib.hid (by unfold readN; rw [if_neg (by omega)]; simp only [HL.out, Int.reduceEq, if_true, if_false]; rw [if_pos (by omega)])
      clear hA
      go_wp2_with (first
        | (refine wpList_ld rfl _ _ rfl _ rfl _ (HR.out.own.load HR.out.dx) ?_)
        | (refine wpList_store_row rfl 27 _ _ rfl w.heap.size _ rfl rfl 27 _ HR.out.out (Rq.sizeOf (rqK 8) HR.out.dx) (Rq.sizes rq0 (rqK 8) rfl HR.out.dx) (Rq.one (rqK 8)) ?_; generalize hwZ : World.setRow _ _ _ = wZ; have HZ : Hid (Rd w wZ w.heap.size (w.heap.size + 1) (rqK 8) (rqK 8)) := Lib.hid (by rw [← hwZ]; exact HR.out.ans (rqK 8) HR.out.dx); have HZK := Lib.hid (keep_row hwZ); clear hwZ))
      refine bodyPost_ret (HZ.out.out.res2 HZ.out.dy rfl _ rfl) rfl ?_
      exact RdQ.of (rqK 8) false (HFK.out _) (RdP.noRec HRN.out) HZ.out.le (Ob.nil _ _ _)
end Go.Proofs.Ythnlfgaljkfhaaa

namespace Go.Proofs.Ythnlfgaljkfhaaa
set_option linter.unusedVariables false
open Go.RowKit Go.Lib

theorem Bs.from_all {P : Program} {p : Option Addr} {len : Nat} (t e : TypeId) (ht : P.underlying t = some (.slice e)) (hz : ∀ w, (Go.sizeOf e).run P w = .ok 1 w) (cap l : Nat) (hlc : len ≤ cap) (hl : l ≤ len) :
    ∃ p', (∀ W', (Instr.slice t (.slice p len cap) (some (.int .i64 (l : Int))) none none).run P W' = .ok (.slice p' (len - l) (cap - l)) W') ∧ (∀ W zs, Bs W p len zs → Bs W p' (len - l) (zs.drop l)) ∧ ((p = none → cap = 0) → p' = none → cap - l = 0) := by
  have ht' : P.underlying t = some (.slice (P.elem t)) := by simp [Program.elem, ht]
  have he : P.elem t = e := by simp [Program.elem, ht]
  refine ⟨_, fun W' => by rw [run_slice_l W' t _ _ _ ht' .i64 _ (by omega) (by omega), he, hz]; rfl, ?_, ?_⟩
  · intro W zs hb
    have hn := hb.len
    simp only [Int.toNat_natCast, Nat.mul_one]
    by_cases e0 : len - l = 0
    · rw [e0, List.drop_of_length_le (by omega)]
      exact Bs.empty _ _
    · rcases hb.2.2 with h0 | ⟨b, o, rfl, hc⟩
      · omega
      · rw [if_neg (by omega)]
        have := hb.window l (len - l) (by omega)
        rw [List.take_of_length_le (by simp; omega)] at this
        by_cases h0 : l = 0
        · subst h0; simpa [Addr.add] using this
        · simpa [Addr.add, h0] using this
  · intro hp hnone
    split at hnone
    · simp at *; omega
    · cases p with
      | none => have := hp rfl; omega
      | some a => simp at hnone
theorem Bs.to_all {P : Program} {p : Option Addr} {len : Nat} (t e : TypeId) (ht : P.underlying t = some (.slice e)) (hz : ∀ w, (Go.sizeOf e).run P w = .ok 1 w) (cap h : Nat) (hlc : len ≤ cap) (hh : h ≤ len) :
    ∃ p', (∀ W', (Instr.slice t (.slice p len cap) none (some (.int .i64 (h : Int))) none).run P W' = .ok (.slice p' h cap) W') ∧ (∀ W zs, Bs W p len zs → Bs W p' h (zs.take h)) ∧ ((p = none → cap = 0) → p' = none → cap = 0) := by
  have ht' : P.underlying t = some (.slice (P.elem t)) := by simp [Program.elem, ht]
  have he : P.elem t = e := by simp [Program.elem, ht]
  refine ⟨_, fun W' => by rw [run_slice_h W' t _ _ _ ht' .i64 _ (by omega) (by omega), he, hz]; rfl, ?_, ?_⟩
  · intro W zs hb
    have hn := hb.len
    simp only [Nat.zero_mul]
    by_cases e0 : h = 0
    · rw [e0, List.take_zero]
      exact Bs.empty _ _
    · rcases hb.2.2 with h0 | ⟨b, o, rfl, hc⟩
      · omega
      · rw [if_neg (by omega)]
        simpa [Addr.add] using hb.take h (by omega)
  · intro hp hnone
    split at hnone
    · omega
    · cases p with
      | none => exact hp rfl
      | some a => simp at hnone

/-- block b holds what is left, and whether a part was missing -/
def Pm (W : World) (b : Nat) (q : Option Addr) (n c : Nat) (x : Bool) : Prop := W.heap[b]? = some (.cells #[.slice q n c, .bool x] 85 (0, 0))
theorem Pm.at {W : World} {b : Nat} {q : Option Addr} {n c : Nat} {x : Bool} (h : Pm W b q n c x) : W.cell? ⟨b, 0, none⟩ = some (.slice q n c) ∧ W.cell? ⟨b, 1, none⟩ = some (.bool x) ∧ W.frozen? ⟨b, 0, none⟩ = false ∧ W.frozen? ⟨b, 1, none⟩ = false :=
  ⟨by simp [World.cell?, show W.heap[b]? = _ from h], by simp [World.cell?, show W.heap[b]? = _ from h], by simp [World.frozen?, show W.heap[b]? = _ from h], by simp [World.frozen?, show W.heap[b]? = _ from h]⟩
theorem Pm.rest {W : World} {b : Nat} {q : Option Addr} {n c : Nat} {x : Bool} (h : Pm W b q n c x) (q' : Option Addr) (n' c' : Nat) : Pm (W.setCell ⟨b, 0, none⟩ (.slice q' n' c')) b q' n' c' x := by
  unfold Pm at h ⊢
  rw [heap_setCell_same W b 0 _ _ _ h]
  rfl
theorem Pm.wrong {W : World} {b : Nat} {q : Option Addr} {n c : Nat} {x : Bool} (h : Pm W b q n c x) : Pm (W.setCell ⟨b, 1, none⟩ (.bool true)) b q n c true := by
  unfold Pm at h ⊢
  rw [heap_setCell_same W b 1 _ _ _ h]
  rfl
theorem below_at {b : Nat} {W V : World} (h : Below b W V) (j : Nat) (v : Value) : Below b W (V.setCell ⟨b, j, none⟩ v) := h.setCell (p := ⟨b, j, none⟩) (Nat.le_refl b) v
/-- block b alone has turned -/
structure But (b : Nat) (w w' : World) : Prop where
  below : Below b w w'
  same : ∀ k, k ≠ b → k < w.heap.size → w'.heap[k]? = w.heap[k]?
theorem But.refl (b : Nat) (w : World) : But b w w := ⟨Below.refl _ _, fun _ _ _ => rfl⟩
theorem But.trans {b : Nat} {u v w : World} (h : But b u v) (k : But b v w) : But b u w := ⟨h.below.trans k.below, fun g h1 h2 => (k.same g h1 (Nat.lt_of_lt_of_le h2 h.below.size)).trans (h.same g h1 h2)⟩
theorem But.at {b : Nat} {W V : World} (h : But b W V) (j : Nat) (v : Value) : But b W (V.setCell ⟨b, j, none⟩ v) := ⟨below_at h.below j v, fun g h1 h2 => (heap_setCell_other _ ⟨b, j, none⟩ g v h1).trans (h.same g h1 h2)⟩
/-- what is left: zs, wherever S holds -/
structure Pa (S : World → Prop) (B : Nat) (W : World) (b : Nat) (zs : List Int) (x : Bool) (q : Option Addr) (n c : Nat) : Prop where
  row : Pm W b q n c x
  bs : ∀ V, S V → Bs V q n zs
  pc : q = none → c = 0
  nc : n ≤ c
  cm : c ≤ maxLen
  hn : n ≤ 2097152
  lo : B ≤ b
  keep : ∀ V, Below B W V → S V
theorem Pa.s {S : World → Prop} {B : Nat} {W : World} {b : Nat} {zs : List Int} {x : Bool} {q : Option Addr} {n c : Nat} (h : Pa S B W b zs x q n c) : S W := h.keep _ (Below.refl _ _)
theorem Pa.len {S : World → Prop} {B : Nat} {W : World} {b : Nat} {zs : List Int} {x : Bool} {q : Option Addr} {n c : Nat} (h : Pa S B W b zs x q n c) : zs.length = n := (h.bs _ h.s).len
theorem Pa.byt {S : World → Prop} {B : Nat} {W : World} {b : Nat} {zs : List Int} {x : Bool} {q : Option Addr} {n c : Nat} (h : Pa S B W b zs x q n c) : Byt zs := (h.bs _ h.s).byte
theorem Pa.lt {S : World → Prop} {B : Nat} {W : World} {b : Nat} {zs : List Int} {x : Bool} {q : Option Addr} {n c : Nat} (h : Pa S B W b zs x q n c) : b < W.heap.size := (Array.getElem?_eq_some_iff.1 h.row).1
/-- a slice of what S keeps -/
structure Sl (S : World → Prop) (zs : List Int) (q : Option Addr) (n c : Nat) : Prop where
  bs : ∀ V, S V → Bs V q n zs
  pc : q = none → c = 0
  nc : n ≤ c
  cm : c ≤ maxLen
def gotN (zs : List Int) (m : Nat) : List Int := if m ≤ zs.length then zs.take m else []
def leftN (zs : List Int) (m : Nat) : List Int := if m ≤ zs.length then zs.drop m else zs
/-- the state of the parts behind a step -/
def Po (S : World → Prop) (B : Nat) (W : World) (b : Nat) (zs : List Int) (x : Bool) (W' : World) : Prop := (∃ q n c, Pa S B W' b zs x q n c) ∧ But b W W'

def TkQ (S : World → Prop) (B : Nat) (W : World) (b : Nat) (zs : List Int) (x : Bool) (m : Nat) (e : Ending) (W' : World) : Prop :=
  ∃ q n c, e = .returned (.slice q n c) ∧ Sl S (gotN zs m) q n c ∧ Po S B W b (leftN zs m) (x || decide (zs.length < m)) W'

set_option maxRecDepth 100000 in
theorem ptake_any (S : World → Prop) (B b : Nat) (zs : List Int) (x : Bool) (q : Option Addr) (n c m : Nat) (W : World) (h : Pa S B W b zs x q n c) (hm : m ≤ 2097152) :
    Calls Try.prog 49 #[.pointer (some ⟨b, 0, none⟩), .int .i64 (m : Int)] W fun e W' => TkQ S B W b zs x m e W' := by
  have HP := Lib.hid h
  have HL := Lib.hid h.len
  obtain ⟨c0, c1, f0, f1⟩ := h.row.at
  have hn := h.hn
  by_cases hmn : m ≤ n
  · have hnc := h.nc
    obtain ⟨pt, hst, hbt, hpt⟩ := Bs.to_all (P := Try.prog) (p := q) (len := n) 25 5 Try.underlying25 (fun _ => by kernel_rfl) c m hnc hmn
    obtain ⟨pf, hsf, hbf, hpf⟩ := Bs.from_all (P := Try.prog) (p := q) (len := n) 25 5 Try.underlying25 (fun _ => by kernel_rfl) c m hnc hmn
    have HT := Lib.hid hbt
    have HF := Lib.hid hbf
    have HPT := Lib.hid hpt
    have HPF := Lib.hid hpf
    have hne : ¬ ((m : Int) > (n : Int)) := by omega
    clear h hnc hbt hpt hbf hpf
    go_enter Try.func49, Try.ntmps49
    go_wp2
    go_ret
    have hb : But b W (W.setCell ⟨b, 0, none⟩ (.slice pf (n - m) (c - m))) := (But.refl _ _).at _ _
    refine ⟨pt, m, c, rfl, ⟨fun V hV => ?_, HPT.out HP.out.pc, by have := HP.out.nc; omega, HP.out.cm⟩, ⟨pf, n - m, c - m, ?_, fun V hV => ?_, HPF.out HP.out.pc, by have := HP.out.nc; omega, by have := HP.out.cm; omega, by omega, HP.out.lo, fun V hV => HP.out.keep V ((hb.below.mono HP.out.lo).trans hV)⟩, hb⟩
    · rw [gotN, if_pos (by rw [HL.out]; exact hmn)]
      exact HT.out V _ (HP.out.bs V hV)
    · rw [show (x || decide (zs.length < m)) = x by rw [decide_eq_false (by rw [HL.out]; omega), Bool.or_false]]
      exact HP.out.row.rest _ _ _
    · rw [leftN, if_pos (by rw [HL.out]; exact hmn)]
      exact HF.out V _ (HP.out.bs V hV)
  · have hgt : (m : Int) > (n : Int) := by omega
    clear h
    go_enter Try.func49, Try.ntmps49
    go_wp2
    go_ret
    have hb : But b W (W.setCell ⟨b, 1, none⟩ (.bool true)) := (But.refl _ _).at _ _
    refine ⟨none, 0, 0, rfl, ⟨fun V hV => ?_, fun _ => rfl, Nat.le_refl _, Nat.zero_le _⟩, ⟨q, n, c, ?_, fun V hV => ?_, HP.out.pc, HP.out.nc, HP.out.cm, HP.out.hn, HP.out.lo, fun V hV => HP.out.keep V ((hb.below.mono HP.out.lo).trans hV)⟩, hb⟩
    · rw [gotN, if_neg (by rw [HL.out]; omega)]
      exact Bs.empty _ _
    · rw [show (x || decide (zs.length < m)) = true by rw [decide_eq_true (by rw [HL.out]; omega), Bool.or_true]]
      exact HP.out.row.wrong
    · rw [leftN, if_neg (by rw [HL.out]; omega)]
      exact HP.out.bs V hV

theorem gotN_length {zs : List Int} {m n : Nat} {V : World} {S : World → Prop} {q : Option Addr} {c : Nat} (h : Sl S (gotN zs m) q n c) (hV : S V) : (gotN zs m).length = n := (h.bs V hV).len
/-- a number of m bytes -/
def numN (zs : List Int) (m : Nat) : Int := wrap64 (takeN (gotN zs m) 0 m)
def NuQ (S : World → Prop) (B : Nat) (W : World) (b : Nat) (zs : List Int) (x : Bool) (m : Nat) (e : Ending) (W' : World) : Prop :=
  e = .returned (.int .i64 (numN zs m)) ∧ Po S B W b (leftN zs m) (x || decide (zs.length < m)) W'
set_option maxRecDepth 100000 in
theorem pnumber_any (S : World → Prop) (B b : Nat) (zs : List Int) (x : Bool) (q : Option Addr) (n c m : Nat) (W : World) (h : Pa S B W b zs x q n c) (hm : m ≤ 2097152) :
    Calls Try.prog 50 #[.pointer (some ⟨b, 0, none⟩), .int .i64 (m : Int)] W fun e W' => NuQ S B W b zs x m e W' := by
  have HT := Lib.hid (ptake_any S B b zs x q n c m W h hm)
  have HK : Hid (∀ V, Below b W V → S V) := Lib.hid fun V hV => h.keep V (hV.mono h.lo)
  unfold NuQ numN
  clear h
  go_enter Try.func50, Try.ntmps50
  go_wp2_with (first
    | (go_at_call 49; refine HT.out.mono ?_; rintro e W1 ⟨q1, n1, c1, rfl, hs1, hp1⟩; have HS1 := Lib.hid hs1; have HP1 := Lib.hid hp1; clear hs1 hp1)
    | (go_at_call 62; refine (take_any q1 n1 c1 (gotN zs m) 0 (m : Int) W1 (HS1.out.bs _ (HK.out _ HP1.out.2.below)) (Nat.le_trans HS1.out.nc HS1.out.cm) (by omega)).mono ?_; rintro e W2 ⟨rfl, rfl⟩))
  go_ret
  exact ⟨rfl, HP1.out⟩

/-- a name -/
def TxQ (S : World → Prop) (B : Nat) (W : World) (b : Nat) (zs : List Int) (x : Bool) (e : Ending) (W' : World) : Prop :=
  e = .returned (.string (strOfNums (textS zs 0))) ∧ Po S B W b (zs.drop (textE zs 0).toNat) (x || !textB zs 0) W'
theorem textE_bd {zs : List Int} (h : Byt zs) : 0 ≤ textE zs 0 ∧ textE zs 0 ≤ zs.length := by
  unfold textE
  split
  · rename_i ht
    simp only [textB, takeB, isSizeB, holdsB, Bool.and_eq_true, decide_eq_true_eq] at ht
    have := h (0 : Int).toNat
    omega
  · omega
set_option maxRecDepth 100000 in
theorem ptext_any (S : World → Prop) (B b : Nat) (zs : List Int) (x : Bool) (q : Option Addr) (n c : Nat) (W : World) (h : Pa S B W b zs x q n c) :
    Calls Try.prog 47 #[.pointer (some ⟨b, 0, none⟩)] W fun e W' => TxQ S B W b zs x e W' := by
  have HP := Lib.hid h
  have HT := Lib.hid (text_any q n c zs 0 W (h.bs _ h.s) h.nc h.cm (by omega))
  obtain ⟨c0, c1, f0, f1⟩ := h.row.at
  have hE := textE_bd h.byt
  rw [h.len] at hE
  unfold TxQ
  generalize strOfNums (textS zs 0) = s at *
  obtain ⟨k, hk⟩ := Int.eq_ofNat_of_zero_le hE.1
  rw [hk] at HT hE ⊢
  have hkn : k ≤ n := by omega
  obtain ⟨pf, hsf, hbf, hpf⟩ := Bs.from_all (P := Try.prog) (p := q) (len := n) 25 5 Try.underlying25 (fun _ => by kernel_rfl) c k h.nc hkn
  have HF := Lib.hid hbf
  have HPF := Lib.hid hpf
  clear h hbf hpf hE hk
  generalize textB zs 0 = tb at *
  cases tb
  · obtain ⟨w1, hw1⟩ : ∃ V, W.setCell ⟨b, 1, none⟩ (.bool true) = V := ⟨_, rfl⟩
    have HR1 : Hid (Pm w1 b q n c true) := Lib.hid (by rw [← hw1]; exact HP.out.row.wrong)
    have HB1 : Hid (But b W w1) := Lib.hid (by rw [← hw1]; exact (But.refl _ _).at _ _)
    obtain ⟨d0, d1, g0, g1⟩ := HR1.out.at
    go_enter Try.func47, Try.ntmps47
    go_wp2_with (go_at_call 61; refine HT.out.mono ?_; rintro e W2 ⟨rfl, rfl⟩)
    go_ret
    have hb : But b W (w1.setCell ⟨b, 0, none⟩ (.slice pf (n - k) (c - k))) := HB1.out.at _ _
    refine ⟨rfl, ⟨pf, n - k, c - k, ?_, fun V hV => ?_, HPF.out HP.out.pc, by have := HP.out.nc; omega, by have := HP.out.cm; omega, by have := HP.out.hn; omega, HP.out.lo, fun V hV => HP.out.keep V ((hb.below.mono HP.out.lo).trans hV)⟩, hb⟩
    · rw [show (x || !false) = true by simp]
      exact HR1.out.rest _ _ _
    · rw [Int.toNat_natCast]
      exact HF.out V _ (HP.out.bs V hV)
  · go_enter Try.func47, Try.ntmps47
    go_wp2_with (go_at_call 61; refine HT.out.mono ?_; rintro e W2 ⟨rfl, rfl⟩)
    go_ret
    have hb : But b W (W.setCell ⟨b, 0, none⟩ (.slice pf (n - k) (c - k))) := (But.refl _ _).at _ _
    refine ⟨rfl, ⟨pf, n - k, c - k, ?_, fun V hV => ?_, HPF.out HP.out.pc, by have := HP.out.nc; omega, by have := HP.out.cm; omega, by have := HP.out.hn; omega, HP.out.lo, fun V hV => HP.out.keep V ((hb.below.mono HP.out.lo).trans hV)⟩, hb⟩
    · rw [show (x || !true) = x by simp]
      exact HP.out.row.rest _ _ _
    · rw [Int.toNat_natCast]
      exact HF.out V _ (HP.out.bs V hV)

def MaQ (S : World → Prop) (B : Nat) (W : World) (b : Nat) (zs : List Int) (x : Bool) (e : Ending) (W' : World) : Prop :=
  e = .returned (.tuple #[]) ∧ Po S B W b (leftN zs 8) ((x || decide (zs.length < 8)) || decide (gotN zs 8 ≠ magN)) W'
set_option maxRecDepth 100000 in
theorem pmark_any (S : World → Prop) (B b : Nat) (zs : List Int) (x : Bool) (q : Option Addr) (n c : Nat) (W : World) (h : Pa S B W b zs x q n c) :
    Calls Try.prog 51 #[.pointer (some ⟨b, 0, none⟩)] W fun e W' => MaQ S B W b zs x e W' := by
  have HT : Hid (Calls Try.prog 49 #[.pointer (some ⟨b, 0, none⟩), .int .i64 8] W fun e W' => TkQ S B W b zs x 8 e W') := Lib.hid (ptake_any S B b zs x q n c 8 W h (by omega))
  have HK : Hid (∀ V, Below b W V → S V) := Lib.hid fun V hV => h.keep V (hV.mono h.lo)
  clear h
  unfold MaQ
  go_enter Try.func51, Try.ntmps51
  go_wp2_with fail
  refine HT.out.mono ?_
  rintro e W1 ⟨q1, n1, c1, rfl, hs1, ⟨q2, n2, c2, hp1⟩, hb1⟩
  have HB1 := Lib.hid hb1
  have HP1 := Lib.hid hp1
  have hbs := hs1.bs _ (HK.out _ hb1.below)
  have hcv := hbs.run_string (P := Try.prog) 25 5 9 Try.underlying25 Try.underlying5 Try.underlying9 c1
  have htt := text_test (strOfNums (gotN zs 8)) [115, 116, 105, 108, 108, 97, 103, 101] magN rfl
  rw [numsOf_strOfNums hbs.byte] at htt
  generalize strOfNums (gotN zs 8) = s at *
  obtain ⟨c0, c1', f0, f1⟩ := hp1.row.at
  clear hbs hs1 hp1 hb1
  by_cases hB : gotN zs 8 = magN
  · rw [decide_eq_true hB] at htt
    have HE := Lib.hid hB
    clear hB
    go_wp2
    go_end0
    refine ⟨rfl, ⟨q2, n2, c2, ?_⟩, HB1.out⟩
    rw [show decide (gotN zs 8 ≠ magN) = false from decide_eq_false (by rw [HE.out]; simp), Bool.or_false]
    exact HP1.out
  · rw [decide_eq_false hB] at htt
    have HE := Lib.hid hB
    clear hB
    go_wp2
    go_end0
    have hb : But b W1 (W1.setCell ⟨b, 1, none⟩ (.bool true)) := (But.refl _ _).at _ _
    refine ⟨rfl, ⟨q2, n2, c2, ?_, HP1.out.bs, HP1.out.pc, HP1.out.nc, HP1.out.cm, HP1.out.hn, HP1.out.lo, fun V hV => HP1.out.keep V ((hb.below.mono HP1.out.lo).trans hV)⟩, HB1.out.trans hb⟩
    rw [show decide (gotN zs 8 ≠ magN) = true from decide_eq_true HE.out, Bool.or_true]
    exact HP1.out.row.wrong
end Go.Proofs.Ythnlfgaljkfhaaa
