/- Layer 19, the program: with, both; Layer 19, the program: Put, Delete. (gen_etzd.py); Layer 20, the program: put, delete of index's own entries; Layer 19, the program: Keep. (gen_etzf.py); Layer 19, the program: Tag, Untag. (gen_etzd.py); Layer 19, the program: KeepTag. (gen_etzf.py) -/
import Derived.Test.YtpfbfhigelbfcaaGreatSd35
import Derived.Test.YtpfbfhigelbfcaaGreatSd37
import Derived.Test.YtpfbfhigelbfcaaGreatSd39
set_option linter.unusedSimpArgs false
set_option linter.unusedVariables false
namespace Go.Proofs.YtpfbfhigelbfcaaGreat
open Go.RowKit Go.Lib
theorem below_drewNI {B : Nat} {a w : World} (h : Below B a w) (q : Nat) : Below B a (w.drewN q) := ⟨h.os, h.tape, h.output, h.size, h.block⟩
theorem seaI_at (B n c K : Nat) (bb : Bool) (p : Option Addr) (L : List Int) (x : Int) (w : World) (h : Gw encI w B (.slice p n c) L) (hs : irises L) (hn : n ≤ 2097200) (hb : decide (x ∈ L) = bb) (hk : L.countP (· < x) = K) :
 Calls Tryz.prog 138 #[.slice p n c, .int .i64 x] w fun e w' => e = .returned (.tuple #[.int .i64 (K : Int), .bool bb]) ∧ Below w.heap.size w w' := by
 refine (seaI_any B n c p L x w h (hs.imp fun h => by omega) hn).mono ?_
 rintro e w' ⟨rfl, q, rfl⟩
 exact ⟨by rw [hb, hk], below_drewNI (Below.refl _ _) q⟩
set_option maxRecDepth 100000 in
set_option maxHeartbeats 1000000 in
theorem with_any (p : Option Addr) (n c : Nat) (L : List Int) (s : Int) (w : World) (h : Gs encI w p n L) (hpc : p = none → c = 0) (hnc : n ≤ c) (hn : n ≤ 2097152) :
 Calls Tryz.prog 112 #[.slice p n c, .int .i64 s] w fun e w' => ∃ v, e = .returned v ∧ Gw encI w' w.heap.size v (putI (rowI L) s) ∧ Below w.heap.size w w' := by
 have HA := Lib.hid (asc_any p n c L w h hpc hnc (by omega))
 have HRL : Hid ((rowI L).length ≤ 2097200) := Lib.hid (by have h1 := rowI_length L; have h2 := h.1; omega)
 have HRR := Lib.hid (rowI_rises L)
 obtain ⟨R, hR⟩ : ∃ R, rowI L = R := ⟨_, rfl⟩
 rw [hR] at HA HRL HRR ⊢
 obtain ⟨K, hK⟩ : ∃ K, R.countP (· < s) = K := ⟨_, rfl⟩
 have HK := Lib.hid hK
 have HKL : Hid (K ≤ R.length) := Lib.hid (by rw [← hK]; exact List.countP_le_length)
 clear h hpc hnc hn hR hK
 by_cases hs : s ∈ R
 ·have HP : Hid (putI R s = R) := Lib.hid (putI_has HRR.out hs)
  have HD : Hid (decide (s ∈ R) = true) := Lib.hid (decide_eq_true hs)
  rw [HP.out]
  clear hs
  go_enter Tryz.func112, Tryz.ntmps112
  go_wp2_with (first
   | (go_at_call 113; refine HA.out.mono ?_; rintro e w1 ⟨v1, rfl, hg1, hb1⟩; obtain ⟨p1, c1, hv1, _⟩ := hg1.open; obtain ⟨n1, hn1⟩ : ∃ n, R.length = n := ⟨_, rfl⟩; rw [hn1] at hv1; subst hv1; have HN1 := Lib.hid hn1; have HG1 := Lib.hid hg1; have HB1 := Lib.hid hb1; have HNN : Hid (n1 ≤ 2097200) := Lib.hid (by rw [← hn1]; exact HRL.out); clear hg1 hb1 hn1)
   | (go_at_call 138; refine (seaI_at w.heap.size n1 c1 K true p1 R s w1 HG1.out HRR.out HNN.out HD.out HK.out).mono ?_; rintro e w2 ⟨rfl, hb2⟩; have HG2 := Lib.hid (HG1.out.later hb2); have HB2 := Lib.hid (below_step HB1.out hb2); clear hb2))
  go_ret
  exact ⟨_, rfl, HG2.out, HB2.out⟩
 ·have HP : Hid (R.take K ++ [s] ++ R.drop K = putI R s) := Lib.hid (by have h1 := ins_at s R HRR.out hs; rw [HK.out] at h1; exact h1)
  have HD : Hid (decide (s ∈ R) = false) := Lib.hid (decide_eq_false hs)
  clear hs
  go_enter Tryz.func112, Tryz.ntmps112
  go_wp2_with (first
   | (go_at_call 113; refine HA.out.mono ?_; rintro e w1 ⟨v1, rfl, hg1, hb1⟩; obtain ⟨p1, c1, hv1, _⟩ := hg1.open; obtain ⟨n1, hn1⟩ : ∃ n, R.length = n := ⟨_, rfl⟩; rw [hn1] at hv1; subst hv1; have HN1 := Lib.hid hn1; have HG1 := Lib.hid hg1; have HB1 := Lib.hid hb1; have HNN : Hid (n1 ≤ 2097200) := Lib.hid (by rw [← hn1]; exact HRL.out); clear hg1 hb1 hn1)
   | (go_at_call 138
      refine (seaI_at w.heap.size n1 c1 K false p1 R s w1 HG1.out HRR.out HNN.out HD.out HK.out).mono ?_
      rintro e w2 ⟨rfl, hb2⟩
      obtain ⟨w3, hw3⟩ : ∃ W, w2.alloc (.cells #[.int .i64 s] 3) = W := ⟨_, rfl⟩
      obtain ⟨G, hG⟩ : ∃ G, w2.heap.size = G := ⟨_, rfl⟩
      have HB2 := Lib.hid (below_step HB1.out hb2)
      have HB3 : Hid (Below w.heap.size w w3) := Lib.hid (by rw [← hw3]; exact HB2.out.alloc HB2.out.size _)
      have HG3 : Hid (Gw encI w3 w.heap.size (.slice p1 n1 c1) R) := Lib.hid (by rw [← hw3]; exact (HG1.out.later hb2).alloc _)
      have HV3 : Hid (w3.heap[G]? = some (.cells #[.int .i64 s] 3 (0, 0))) := Lib.hid (by rw [← hw3, ← hG]; exact heap_alloc_new _ _)
      have HNE : Hid (p1 ≠ some ⟨G, 0, none⟩) := Lib.hid (fun e => by
       subst e
       obtain ⟨_, _, _, _, cur, hg, _⟩ := (HG1.out.later hb2).block
       have := (Array.getElem?_eq_some_iff.1 hg).1
       omega)
      have HKN : Hid (K ≤ n1) := Lib.hid (by rw [← HN1.out]; exact HKL.out)
      clear hb2)
   | (go_at_call 139; refine (insI_any w.heap.size n1 c1 K G p1 R s w3 HG3.out HB3.out.size HV3.out HNE.out HKN.out HNN.out).mono ?_; rintro e w4 ⟨v4, rfl, hg4, hb4⟩; rw [HP.out] at hg4; have HG4 := Lib.hid hg4; have HB4 := Lib.hid (HB3.out.trans hb4); clear hg4 hb4))
  go_ret
  exact ⟨_, rfl, HG4.out, HB4.out⟩
theorem filter_stepI {L R : List Int} {k : Nat} (h : k < L.length) : (L.take (k + 1)).filter (fun x => decide (x ∈ R)) = (L.take k).filter (fun x => decide (x ∈ R)) ++ if L.getD k 0 ∈ R then [L.getD k 0] else [] := by
 rw [List.take_succ_eq_append_getElem h, List.filter_append, List.getD_eq_getElem?_getD, List.getElem?_eq_getElem h]
 simp only [Option.getD_some]
 by_cases hx : L[k] ∈ R
 ·rw [if_pos hx, List.filter_cons_of_pos (by simpa using hx)]
  rfl
 ·rw [if_neg hx, List.filter_cons_of_neg (by simpa using hx)]
  rfl
set_option maxRecDepth 100000 in
set_option maxHeartbeats 2000000 in
theorem pboth_any (p : Option Addr) (n c : Nat) (L : List Int) (p2 : Option Addr) (m c2 : Nat) (M : List Int) (w : World) (h : Gs encI w p n L) (hpc : p = none → c = 0) (hnc : n ≤ c) (h2 : Gs encI w p2 m M) (hn : n ≤ 2097152) (hm : m ≤ 2097152) :
 Calls Tryz.prog 117 #[.slice p n c, .slice p2 m c2] w fun e w' => ∃ v, e = .returned v ∧ Gw encI w' w.heap.size v (bothI L M) ∧ Below w.heap.size w w' := by
 have HA := Lib.hid (asc_any p n c L w h hpc hnc (by omega))
 have HRL : Hid ((rowI L).length ≤ 2097200) := Lib.hid (by have h1 := rowI_length L; have h2 := h.1; omega)
 have HRR := Lib.hid (rowI_rises L)
 have HM := Lib.hid h2
 have HMR : Hid (∀ x, x ∈ rowI L ↔ x ∈ L) := Lib.hid fun x => mem_rowI
 obtain ⟨R, hR⟩ : ∃ R, rowI L = R := ⟨_, rfl⟩
 rw [hR] at HA HRL HRR HMR
 clear h hpc hnc hn hR h2
 go_enter Tryz.func117, Tryz.ntmps117
 go_wp2_with (go_at_call 113; refine HA.out.mono ?_; rintro e w1 ⟨v1, rfl, hg1, hb1⟩; obtain ⟨p1, c1, hv1, _⟩ := hg1.open; obtain ⟨n1, hn1⟩ : ∃ n, R.length = n := ⟨_, rfl⟩; rw [hn1] at hv1; subst hv1; have HG1 := Lib.hid hg1; have HB1 := Lib.hid hb1; have HNN : Hid (n1 ≤ 2097200) := Lib.hid (by rw [← hn1]; exact HRL.out); clear hg1 hb1 hn1)
 go_loopw [6, 15] (fun v i wr => ∃ (k : Nat) (o : List Int), k ≤ m ∧ i = .int .i64 (k : Int) ∧ Hid (o = (M.take k).filter (fun x => decide (x ∈ R))) ∧ Hid (Gw encI wr w1.heap.size v o) ∧ Hid (Below w1.heap.size w1 wr)) (fun _ i _ => m - (intOf i).toNat)
 case atStart => exact ⟨0, [], by omega, rfl, Lib.hid rfl, Lib.hid (Gw.nil _ _ _), Lib.hid (Below.refl _ _)⟩
 case round =>
  obtain ⟨k, o, hk, rfl, HO, HG, HB⟩ := hrel
  have HOL : Hid (o.length ≤ k) := Lib.hid (by
   rw [HO.out]
   refine Nat.le_trans (List.length_filter_le _ _) ?_
   rw [List.length_take]
   exact Nat.min_le_left _ _)
  by_cases hlt : k < m
  ·obtain ⟨b, off, rfl, c0⟩ := (HM.out.later (below_step HB1.out HB.out)).it k hlt
   have hkn : (k : Int) < (m : Int) := by omega
   have hk0 : (0 : Int) ≤ (k : Int) := by omega
   have HT := Lib.hid (filter_stepI (L := M) (R := R) (k := k) (by rw [HM.out.1]; exact hlt))
   generalize M.getD k 0 = y at *
   have HGR := Lib.hid (HG1.out.later HB.out)
   by_cases hy : y ∈ R
   ·have HD : Hid (decide (y ∈ R) = true) := Lib.hid (decide_eq_true hy)
    have HO2 : Hid (o ++ [y] = (M.take (k + 1)).filter (fun x => decide (x ∈ R))) := Lib.hid (by rw [HT.out, if_pos hy, ← HO.out])
    have HZ1 : Hid (o.length + 1 ≤ 2097216) := Lib.hid (by have := HOL.out; omega)
    clear hy
    go_wp2_with (first
     | (go_at_call 138
        refine (seaI_at w.heap.size n1 c1 _ true p1 R y wr HGR.out HRR.out HNN.out HD.out rfl).mono ?_
        rintro e w2 ⟨rfl, hb2⟩
        obtain ⟨w3, hw3⟩ : ∃ W, w2.alloc (.cells #[.int .i64 y] 3) = W := ⟨_, rfl⟩
        obtain ⟨G, hG⟩ : ∃ G, w2.heap.size = G := ⟨_, rfl⟩
        have HB2 := Lib.hid (below_step HB.out hb2)
        have HB3 : Hid (Below w1.heap.size w1 w3) := Lib.hid (by rw [← hw3]; exact HB2.out.alloc HB2.out.size _)
        have HG3 := Lib.hid ((HG.out.later hb2).alloc (.cells #[.int .i64 y] 3))
        rw [hw3] at HG3
        have HN3 : Hid (Gs encI w3 (some ⟨G, 0, none⟩) 1 [y]) := Lib.hid (by rw [← hw3, ← hG]; exact Gs.one encI _ y #[.int .i64 y] rfl 3 (0, 0))
        clear hb2)
     | (refine wpList_append_gen encI rfl (.tmp 26) (.tmp 28) 40 rfl Tryz.underlying40 (.int .i64 0) 8 infoI rfl (by decide) w1.heap.size _ _ rfl HG3.out _ 1 1 [y] rfl HN3.out (fun h => by cases h) HZ1.out HB3.out.size ?_; intro v4 w4 ho4 hg4; have HG4 := Lib.hid ho4; have HB4 : Hid (Below w1.heap.size w1 w4) := Lib.hid (below_new_gw HB3.out HG3.out hg4 HB3.out.size); clear ho4 hg4))
    refine ⟨?_, by simp [intOf] <;> omega⟩
    first
     | exact ⟨k + 1, _, by omega, by go_num, HO2, HG4, HB4⟩
     | ((repeat apply Exists.intro); refine ⟨?_, rfl⟩; exact ⟨k + 1, _, by omega, by go_num, HO2, HG4, HB4⟩)
   ·have HD : Hid (decide (y ∈ R) = false) := Lib.hid (decide_eq_false hy)
    have HO2 : Hid (o = (M.take (k + 1)).filter (fun x => decide (x ∈ R))) := Lib.hid (by rw [HT.out, if_neg hy, ← HO.out, List.append_nil])
    clear hy
    go_wp2_with (go_at_call 138; refine (seaI_at w.heap.size n1 c1 _ false p1 R y wr HGR.out HRR.out HNN.out HD.out rfl).mono ?_; rintro e w2 ⟨rfl, hb2⟩; have HB2 := Lib.hid (below_step HB.out hb2); have HG2 := Lib.hid (HG.out.later hb2); clear hb2)
    refine ⟨?_, by simp [intOf] <;> omega⟩
    first
     | exact ⟨k + 1, _, by omega, by go_num, HO2, HG2, HB2⟩
     | ((repeat apply Exists.intro); refine ⟨?_, rfl⟩; exact ⟨k + 1, _, by omega, by go_num, HO2, HG2, HB2⟩)
  ·obtain rfl : k = m := by omega
   have HE : Hid (o = M.filter (fun x => decide (x ∈ R))) := Lib.hid (by have h1 := HO.out; rwa [List.take_of_length_le (by rw [HM.out.1]; exact Nat.le_refl _)] at h1)
   have HE2 : Hid (rowI o = bothI L M) := Lib.hid (irises_ext (rowI_rises _) (bothI_rises _ _) fun x => by
    rw [mem_rowI, mem_bothI, HE.out, List.mem_filter, decide_eq_true_eq, HMR.out]
    exact And.comm)
   obtain ⟨p3, c3, hv3, hlc, _, hgs3, hpn⟩ := HG.out.open
   subst hv3
   have HC := Lib.hid (asc_any p3 o.length c3 o wr hgs3 hpn hlc (by have := HOL.out; omega))
   clear hlc hgs3 hpn
   go_wp2_with (go_at_call 113; refine HC.out.mono ?_; rintro e w5 ⟨v5, rfl, hg5, hb5⟩; rw [HE2.out] at hg5; have HG5 := Lib.hid hg5; have HB5 := Lib.hid hb5; clear hg5 hb5)
   go_ret
   have hB := below_step HB1.out HB.out
   exact ⟨_, rfl, HG5.out.mono hB.size, below_step hB HB5.out⟩
set_option maxRecDepth 100000 in
set_option maxHeartbeats 4000000 in
theorem pput_any (e : Pe) (s : Value) (x : Wq) (w : World) (h : Is w s e.ins) (hd : dok e.dg) (hx : dok x.dg) (hn : e.ins.length ≤ 2097152) :
 Calls Tryz.prog 136 #[enV e s, x.v] w fun r w' => EnG w (putE e x) r w' := by
 obtain ⟨w0, w1, w2, g1, g2, h0, h1, h2, hg1, hg2, hB⟩ := box3 w (enC e s) (mixC x.a x.dg x.t) (enC zeroE (.slice none 0 0)) 59 39 59
 have HE : Hid (Em w2 w.heap.size e s) := Lib.hid hB.a
 have HX : Hid (Wm w2 g1 x) := Lib.hid hB.b
 have HZ : Hid (Em w2 g2 zeroE (.slice none 0 0)) := Lib.hid hB.z
 have HB := Lib.hid hB.le
 have HLT := Lib.hid hB.lt
 have HS := Lib.hid (h.later hB.le)
 obtain ⟨p, c, rfl, hs, hpc, hnc, _⟩ := h.later hB.le
 have HRO := Lib.hid fun W (hW : Below w2.heap.size w2 W) => with_any p e.ins.length c e.ins x.seg W (hs.later hW) hpc hnc hn
 have HD := Lib.hid hd
 have HXD := Lib.hid hx
 have HN := Lib.hid hn
 have HLX := Lib.hid fun W (hW : Below w2.heap.size w2 W) => (HX.out.later hW).dig hx.1
 have HLC := Lib.hid fun W (hW : Below w2.heap.size w2 W) => (HX.out.later hW).loc hx.1
 obtain ⟨m, hm⟩ : ∃ m, e.ins.length = m := ⟨_, rfl⟩
 rw [hm] at HRO
 have HML := Lib.hid hm
 obtain ⟨e0, e1, e2, cs⟩ := HE.out.cells hd.1
 obtain ⟨x0, x1, x2, x3⟩ := HX.out.cells5 hx.1
 rw [hm] at cs
 have HSC := Lib.hid (show (fun W : World => W.cell? ⟨g1, 0, none⟩ = some (.int .i64 x.k) ∧ W.cell? ⟨g1, 35, none⟩ = some (.int .i64 x.z) ∧ W.cell? ⟨g1, 36, none⟩ = some (.int .i64 x.seg) ∧ W.cell? ⟨w.heap.size, 37, none⟩ = some (.slice p m c) ∧ Below w2.heap.size w2 W) w2 from ⟨x0, x2, x3, cs, Below.refl _ _⟩)
 rw [enZero] at h2
 unfold enV Wq.v
 generalize hMC : enC e (Value.slice p e.ins.length c) = MC at *
 generalize hMX : mixC x.a x.dg x.t = MX at *
 rw [hm] at hMC
 clear hMC hMX hs hpc hnc hd hx hn hB hm cs e0 e1 e2 x0 x1 x2 x3
 go_enter Tryz.func136, Tryz.ntmps136
 go_upto_region 1 with fail
 refine wp_region_x (fun W : World => W.cell? ⟨g1, 0, none⟩ = some (.int .i64 x.k) ∧ W.cell? ⟨g1, 35, none⟩ = some (.int .i64 x.z) ∧ W.cell? ⟨g1, 36, none⟩ = some (.int .i64 x.seg) ∧ W.cell? ⟨w.heap.size, 37, none⟩ = some (.slice p m c) ∧ Below w2.heap.size w2 W) 15 (by kernel_rfl) ?_
 have hHeld : (fun W : World => W.cell? ⟨g1, 0, none⟩ = some (.int .i64 x.k) ∧ W.cell? ⟨g1, 35, none⟩ = some (.int .i64 x.z) ∧ W.cell? ⟨g1, 36, none⟩ = some (.int .i64 x.seg) ∧ W.cell? ⟨w.heap.size, 37, none⟩ = some (.slice p m c) ∧ Below w2.heap.size w2 W) _ := (show (fun W : World => W.cell? ⟨g1, 0, none⟩ = some (.int .i64 x.k) ∧ W.cell? ⟨g1, 35, none⟩ = some (.int .i64 x.z) ∧ W.cell? ⟨g1, 36, none⟩ = some (.int .i64 x.seg) ∧ W.cell? ⟨w.heap.size, 37, none⟩ = some (.slice p m c) ∧ Below w2.heap.size w2 W) (World.drew w2) from ⟨HSC.out.1, HSC.out.2.1, HSC.out.2.2.1, HSC.out.2.2.2.1, (Below.refl _ _).drew⟩)
 refine tkx 0 rfl ?_;(try simp only [PT])
 refine tkxL 1 rfl (yieldsIf_ld (by rfl) 35 (.tmp 5) rfl (.pointer (some ⟨g1, 2, none⟩)) rfl (.agg (bcs x.dg)) (fun W hW => HLX.out W (hW.2.2.2.2))) ?_
 (try simp only [PT])
 refine tkx 2 rfl ?_;(try simp only [PT]);refine tkx 3 rfl ?_;(try simp only [PT]);refine tkx 4 rfl ?_;(try simp only [PT]);refine tkx 5 rfl ?_;(try simp only [PT]);refine tkx 6 rfl ?_;(try simp only [PT])
 refine tkxL 7 rfl (yieldsIf_ld (by rfl) 37 (.tmp 11) rfl (.pointer (some ⟨g1, 36, none⟩)) rfl (.agg (lcA x.seg x.off x.len)) (fun W hW => HLC.out W (hW.2.2.2.2))) ?_
 (try simp only [PT])
 refine tkx 8 rfl ?_;(try simp only [PT]);refine tkx 9 rfl ?_;(try simp only [PT]);refine tkx 10 rfl ?_;(try simp only [PT]);refine tkx 11 rfl ?_;(try simp only [PT]);refine tkx 12 rfl ?_;(try simp only [PT])
 refine readyx 13 rfl (by kernel_rfl) (fun K hK => ?_)
 go_simp
 refine (HRO.out _ (hHeld.2.2.2.2)).mono ?_
 rintro r w5 ⟨v5, rfl, ho5, hb5⟩
 have hb25 := below_step (hHeld.2.2.2.2) hb5
 obtain ⟨q, d, hv5, _⟩ := ho5.open
 obtain ⟨n, hnn⟩ : ∃ n, (putI (rowI e.ins) x.seg).length = n := ⟨_, rfl⟩
 rw [hnn] at hv5
 subst hv5
 have HO5 := Lib.hid ho5
 obtain ⟨y0, y1, y2, y3⟩ := (HE.out.later hb25).cells HD.out.1
 obtain ⟨z0, z1, z2, z3⟩ := (HX.out.later hb25).cells5 HXD.out.1
 rw [show e.ins.length = m from HML.out] at y3
 have k_x0 := z0
 have k_x2 := z2
 have k_x3 := z3
 have k_cs := y3
 clear y0 y1 y2 z0 z1 z2 z3
 clear hb5 ho5
 have HBL5 : Hid (g2 < _) := Lib.hid (Nat.lt_of_lt_of_le HZ.out.lt (Below.size hHeld.2.2.2.2))
 first
  | refine hK.out _ _ ?hS14 ?rest14
  | (go_wp2_with fail; refine hK.out _ _ ?hS14 ?rest14)
 case hS14 => exact ⟨k_x0, k_x2, k_x3, k_cs, hb25⟩
 clear hK K hHeld
 have hHeld : (fun W : World => W.cell? ⟨g1, 0, none⟩ = some (.int .i64 x.k) ∧ W.cell? ⟨g1, 35, none⟩ = some (.int .i64 x.z) ∧ W.cell? ⟨g1, 36, none⟩ = some (.int .i64 x.seg) ∧ W.cell? ⟨w.heap.size, 37, none⟩ = some (.slice p m c) ∧ Below w2.heap.size w2 W) _ := ⟨k_x0, k_x2, k_x3, k_cs, hb25⟩
 (try simp only [PT])
 refine tkxL 14 rfl (yieldsIf_build (by rfl) 59 #[(0, .tmp 6), (1, .tmp 8), (2, .tmp 10), (3, .tmp 12), (4, .tmp 18)] rfl (enC (putE e x) (.slice q n d)) (by first | exact (built_en5 x.k x.z x.seg x.off x.len (putI (rowI e.ins) x.seg) q n d x.dg HXD.out.1) | (simp only [List.map_toArray, List.map_cons, List.map_nil]; exact (built_en5 x.k x.z x.seg x.off x.len (putI (rowI e.ins) x.seg) q n d x.dg HXD.out.1)))) ?_
 (try simp only [PT])
 refine lastx 15 rfl (by kernel_rfl) (by kernel_rfl) (fun K hK => ?_)
 rw [if_pos (by rfl)]
 have HZ5 := Lib.hid (HZ.out.later hb25)
 have HIS : Hid (Is w5 (.slice q n d) (putI (rowI e.ins) x.seg)) := Lib.hid (by have h := HO5.out.is; exact h)
 have hlz : g2 < w5.heap.size := HZ5.out.lt
 have hgl : w.heap.size ≤ g2 := by have := HLT.out; omega
 have HMZ : Hid (Em (w5.setRow g2 (enC (putE e x) (.slice q n d))) g2 (putE e x) (.slice q n d)) := Lib.hid (Mx.row HZ5.out)
 have HBZ : Hid (Below w.heap.size w (w5.setRow g2 (enC (putE e x) (.slice q n d)))) := Lib.hid (below_setRow8 (below_step HB.out hb25) _ _ hgl)
 have HIZ : Hid (Gw encI (w5.setRow g2 (enC (putE e x) (.slice q n d))) w.heap.size (.slice q n d) (putI (rowI e.ins) x.seg)) := Lib.hid ((Gw.isrow HO5.out HZ5.out HBL5.out).mono (by have h1 := HBL5.out; have h2 := HLT.out; omega))
 refine wp_store_row 59 _ _ rfl g2 (enC (putE e x) (.slice q n d)) rfl rfl 59 _ HZ5.out (enC_sizeOf (putE e x) _ HXD.out.1) ((enC_size _ _ rfl).trans (enC_size (putE e x) _ HXD.out.1).symm) (enC_one _ _ _ _) ?_
 generalize World.setRow _ _ _ = wZ at *
 first
  | refine hK.out _ _ ?_
  | (go_wp2_with fail; refine hK.out _ _ ?_)
 clear hK K hHeld
 go_wp2
 refine bodyPost_ret (HMZ.out.res1 HXD.out.1 rfl _ rfl) rfl ?_
 exact ⟨_, rfl, HIZ.out, HBZ.out⟩
set_option maxRecDepth 100000 in
set_option maxHeartbeats 4000000 in
theorem pdel_any (e : Pe) (s : Value) (x : Wq) (w : World) (h : Is w s e.ins) (hd : dok e.dg) (hx : dok x.dg) (hn : e.ins.length ≤ 2097152) :
 Calls Tryz.prog 137 #[enV e s, x.v] w fun r w' => EnG w (delE e x) r w' := by
 obtain ⟨w0, w1, w2, g1, g2, h0, h1, h2, hg1, hg2, hB⟩ := box3 w (enC e s) (mixC x.a x.dg x.t) (enC zeroE (.slice none 0 0)) 59 39 59
 have HE : Hid (Em w2 w.heap.size e s) := Lib.hid hB.a
 have HX : Hid (Wm w2 g1 x) := Lib.hid hB.b
 have HZ : Hid (Em w2 g2 zeroE (.slice none 0 0)) := Lib.hid hB.z
 have HB := Lib.hid hB.le
 have HLT := Lib.hid hB.lt
 have HS := Lib.hid (h.later hB.le)
 obtain ⟨p, c, rfl, hs, hpc, hnc, _⟩ := h.later hB.le
 have HRO := Lib.hid fun W (hW : Below w2.heap.size w2 W) => asc_any p e.ins.length c e.ins W (hs.later hW) hpc hnc (by omega)
 have HD := Lib.hid hd
 have HXD := Lib.hid hx
 have HN := Lib.hid hn
 have HLE := Lib.hid fun W (hW : Below w2.heap.size w2 W) => (HE.out.later hW).dig hd.1
 have HLC := Lib.hid fun W (hW : Below w2.heap.size w2 W) => (HX.out.later hW).loc hx.1
 obtain ⟨m, hm⟩ : ∃ m, e.ins.length = m := ⟨_, rfl⟩
 rw [hm] at HRO
 have HML := Lib.hid hm
 obtain ⟨e0, e1, e2, cs⟩ := HE.out.cells hd.1
 obtain ⟨x0, x1, x2, x3⟩ := HX.out.cells5 hx.1
 rw [hm] at cs
 have HSC := Lib.hid (show (fun W : World => W.cell? ⟨w.heap.size, 37, none⟩ = some (.slice p m c) ∧ Below w2.heap.size w2 W) w2 from ⟨cs, Below.refl _ _⟩)
 rw [enZero] at h2
 unfold enV Wq.v
 generalize hMC : enC e (Value.slice p e.ins.length c) = MC at *
 generalize hMX : mixC x.a x.dg x.t = MX at *
 rw [hm] at hMC
 clear hMC hMX hs hpc hnc hd hx hn hB hm cs e0 e1 e2 x0 x1 x2 x3
 go_enter Tryz.func137, Tryz.ntmps137
 go_upto_region 1 with fail
 refine wp_region_x (fun W : World => W.cell? ⟨w.heap.size, 37, none⟩ = some (.slice p m c) ∧ Below w2.heap.size w2 W) 8 (by kernel_rfl) ?_
 have hHeld : (fun W : World => W.cell? ⟨w.heap.size, 37, none⟩ = some (.slice p m c) ∧ Below w2.heap.size w2 W) _ := (show (fun W : World => W.cell? ⟨w.heap.size, 37, none⟩ = some (.slice p m c) ∧ Below w2.heap.size w2 W) (World.drew w2) from ⟨HSC.out.1, (Below.refl _ _).drew⟩)
 refine tkx 0 rfl ?_;(try simp only [PT])
 refine tkxL 1 rfl (yieldsIf_ld (by rfl) 35 (.tmp 5) rfl (.pointer (some ⟨w.heap.size, 0, none⟩)) rfl (.agg (bcs e.dg)) (fun W hW => HLE.out W (hW.2))) ?_
 (try simp only [PT])
 refine tkx 2 rfl ?_;(try simp only [PT])
 refine tkxL 3 rfl (yieldsIf_ld (by rfl) 37 (.tmp 7) rfl (.pointer (some ⟨g1, 36, none⟩)) rfl (.agg (lcA x.seg x.off x.len)) (fun W hW => HLC.out W (hW.2))) ?_
 (try simp only [PT])
 refine tkx 4 rfl ?_;(try simp only [PT]);refine tkx 5 rfl ?_;(try simp only [PT])
 refine readyx 6 rfl (by kernel_rfl) (fun K hK => ?_)
 go_simp
 refine (HRO.out _ (hHeld.2)).mono ?_
 rintro r w5 ⟨v5, rfl, ho5, hb5⟩
 have hb25 := below_step (hHeld.2) hb5
 obtain ⟨q, d, hv5, _⟩ := ho5.open
 obtain ⟨n, hnn⟩ : ∃ n, (rowI e.ins).length = n := ⟨_, rfl⟩
 rw [hnn] at hv5
 subst hv5
 have HO5 := Lib.hid ho5
 obtain ⟨y0, y1, y2, y3⟩ := (HE.out.later hb25).cells HD.out.1
 obtain ⟨z0, z1, z2, z3⟩ := (HX.out.later hb25).cells5 HXD.out.1
 rw [show e.ins.length = m from HML.out] at y3
 have k_cs := y3
 clear y0 y1 y2 z0 z1 z2 z3
 clear hb5 ho5
 have HBL5 : Hid (g2 < _) := Lib.hid (Nat.lt_of_lt_of_le HZ.out.lt (Below.size hHeld.2))
 first
  | refine hK.out _ _ ?hS23 ?rest23
  | (go_wp2_with fail; refine hK.out _ _ ?hS23 ?rest23)
 case hS23 => exact ⟨k_cs, hb25⟩
 clear hK K hHeld
 have hHeld : (fun W : World => W.cell? ⟨w.heap.size, 37, none⟩ = some (.slice p m c) ∧ Below w2.heap.size w2 W) _ := ⟨k_cs, hb25⟩
 (try simp only [PT])
 refine tkxL 7 rfl (yieldsIf_build (by rfl) 59 #[(0, .tmp 6), (1, .const (.int .i64 5)), (3, .tmp 8), (4, .tmp 11)] rfl (enC (delE e x) (.slice q n d)) (by first | exact (built_en4 5 x.seg x.off x.len (rowI e.ins) q n d e.dg HD.out.1) | (simp only [List.map_toArray, List.map_cons, List.map_nil]; exact (built_en4 5 x.seg x.off x.len (rowI e.ins) q n d e.dg HD.out.1)))) ?_
 (try simp only [PT])
 refine lastx 8 rfl (by kernel_rfl) (by kernel_rfl) (fun K hK => ?_)
 rw [if_pos (by rfl)]
 have HZ5 := Lib.hid (HZ.out.later hb25)
 have HIS : Hid (Is w5 (.slice q n d) (rowI e.ins)) := Lib.hid (by have h := HO5.out.is; exact h)
 have hlz : g2 < w5.heap.size := HZ5.out.lt
 have hgl : w.heap.size ≤ g2 := by have := HLT.out; omega
 have HMZ : Hid (Em (w5.setRow g2 (enC (delE e x) (.slice q n d))) g2 (delE e x) (.slice q n d)) := Lib.hid (Mx.row HZ5.out)
 have HBZ : Hid (Below w.heap.size w (w5.setRow g2 (enC (delE e x) (.slice q n d)))) := Lib.hid (below_setRow8 (below_step HB.out hb25) _ _ hgl)
 have HIZ : Hid (Gw encI (w5.setRow g2 (enC (delE e x) (.slice q n d))) w.heap.size (.slice q n d) (rowI e.ins)) := Lib.hid ((Gw.isrow HO5.out HZ5.out HBL5.out).mono (by have h1 := HBL5.out; have h2 := HLT.out; omega))
 refine wp_store_row 59 _ _ rfl g2 (enC (delE e x) (.slice q n d)) rfl rfl 59 _ HZ5.out (enC_sizeOf (delE e x) _ HD.out.1) ((enC_size _ _ rfl).trans (enC_size (delE e x) _ HD.out.1).symm) (enC_one _ _ _ _) ?_
 generalize World.setRow _ _ _ = wZ at *
 first
  | refine hK.out _ _ ?_
  | (go_wp2_with fail; refine hK.out _ _ ?_)
 clear hK K hHeld
 go_wp2
 refine bodyPost_ret (HMZ.out.res1 HD.out.1 rfl _ rfl) rfl ?_
 exact ⟨_, rfl, HIZ.out, HBZ.out⟩
set_option maxRecDepth 100000 in
set_option maxHeartbeats 1000000 in
theorem kput_any (e : Pe) (s : Value) (x : Wq) (w : World) (h : Is w s e.ins) (hd : dok e.dg) (hx : dok x.dg) (hn : e.ins.length ≤ 2097152) :
 Calls Tryz.prog 110 #[enV e s, x.v] w fun r w' => EnG w (putE e x) r w' := by
 obtain ⟨w0, w1, w2, g1, g2, h0, h1, h2, hg1, hg2, hB⟩ := box3 w (enC e s) (mixC x.a x.dg x.t) (enC zeroE (.slice none 0 0)) 124 39 124
 have HE : Hid (Km w2 w.heap.size e s) := Lib.hid hB.a
 have HX : Hid (Wm w2 g1 x) := Lib.hid hB.b
 have HZ : Hid (Km w2 g2 zeroE (.slice none 0 0)) := Lib.hid hB.z
 have HB := Lib.hid hB.le
 have HLT := Lib.hid hB.lt
 have HL1 := Lib.hid (HE.out.load hd.1)
 have HL2 := Lib.hid (HX.out.load hx.1)
 have HCP := Lib.hid (pput_any e s x w2 (h.later hB.le) hd hx hn)
 have HPD : Hid ((putE e x).dg.length = 32) := Lib.hid hx.1
 rw [enZero] at h2
 unfold enV Wq.v at *
 generalize hMC : enC e s = MC at *
 generalize hMX : mixC x.a x.dg x.t = MX at *
 generalize hY : putE e x = Y at *
 clear hMC hMX h hd hx hB hn hY
 go_enter Tryz.func110, Tryz.ntmps110
 go_upto_region 1 with fail
 clear h0 h1 h2 hg1 hg2
 go_wp2_with (first
  | (refine wpList_ld rfl 124 _ rfl _ rfl _ HL1.out ?_)
  | (refine wpList_ld rfl 39 _ rfl _ rfl _ HL2.out ?_)
  | (go_at_call 136; refine HCP.out.mono ?_; rintro r w3 ⟨u, rfl, hg3, hb3⟩; obtain ⟨q, d, hu, _⟩ := hg3.open; obtain ⟨m5, hm5⟩ : ∃ m, Y.ins.length = m := ⟨_, rfl⟩; rw [hm5] at hu; subst hu; clear hm5; have HG3 := Lib.hid hg3; have HB3 := Lib.hid hb3; have HZ3 := Lib.hid (HZ.out.later hb3); clear hg3 hb3; unfold enV)
  | (refine wpList_store_row rfl 124 _ _ rfl g2 (enC Y (.slice q m5 d)) rfl rfl 124 _ HZ3.out (knC_sizeOf Y _ HPD.out) ((enC_size _ _ rfl).trans (enC_size Y _ HPD.out).symm) (enC_one _ _ _ _) ?_; generalize hw6 : World.setRow _ _ _ = w6))
 have HM6 : Km w6 g2 Y (.slice q m5 d) := by rw [← hw6]; exact Mx.row HZ3.out
 refine bodyPost_ret (HM6.res1 HPD.out rfl _ rfl) rfl ?_
 refine ⟨_, rfl, ?_, by rw [← hw6]; exact below_setRow8 (below_step HB.out HB3.out) _ _ (by have := HLT.out; omega)⟩
 exact Gw.mono (B := w2.heap.size) (HG3.out.iskeep fun b hb => by rw [← hw6]; exact setRow_other _ _ _ _ (by have h1 := HZ.out; have h2 := Mx.lt h1; omega)) HB.out.size
set_option maxRecDepth 100000 in
set_option maxHeartbeats 1000000 in
theorem kdel_any (e : Pe) (s : Value) (x : Wq) (w : World) (h : Is w s e.ins) (hd : dok e.dg) (hx : dok x.dg) (hn : e.ins.length ≤ 2097152) :
 Calls Tryz.prog 111 #[enV e s, x.v] w fun r w' => EnG w (delE e x) r w' := by
 obtain ⟨w0, w1, w2, g1, g2, h0, h1, h2, hg1, hg2, hB⟩ := box3 w (enC e s) (mixC x.a x.dg x.t) (enC zeroE (.slice none 0 0)) 124 39 124
 have HE : Hid (Km w2 w.heap.size e s) := Lib.hid hB.a
 have HX : Hid (Wm w2 g1 x) := Lib.hid hB.b
 have HZ : Hid (Km w2 g2 zeroE (.slice none 0 0)) := Lib.hid hB.z
 have HB := Lib.hid hB.le
 have HLT := Lib.hid hB.lt
 have HL1 := Lib.hid (HE.out.load hd.1)
 have HL2 := Lib.hid (HX.out.load hx.1)
 have HCP := Lib.hid (pdel_any e s x w2 (h.later hB.le) hd hx hn)
 have HPD : Hid ((delE e x).dg.length = 32) := Lib.hid hd.1
 rw [enZero] at h2
 unfold enV Wq.v at *
 generalize hMC : enC e s = MC at *
 generalize hMX : mixC x.a x.dg x.t = MX at *
 generalize hY : delE e x = Y at *
 clear hMC hMX h hd hx hB hn hY
 go_enter Tryz.func111, Tryz.ntmps111
 go_upto_region 1 with fail
 clear h0 h1 h2 hg1 hg2
 go_wp2_with (first
  | (refine wpList_ld rfl 124 _ rfl _ rfl _ HL1.out ?_)
  | (refine wpList_ld rfl 39 _ rfl _ rfl _ HL2.out ?_)
  | (go_at_call 137; refine HCP.out.mono ?_; rintro r w3 ⟨u, rfl, hg3, hb3⟩; obtain ⟨q, d, hu, _⟩ := hg3.open; obtain ⟨m5, hm5⟩ : ∃ m, Y.ins.length = m := ⟨_, rfl⟩; rw [hm5] at hu; subst hu; clear hm5; have HG3 := Lib.hid hg3; have HB3 := Lib.hid hb3; have HZ3 := Lib.hid (HZ.out.later hb3); clear hg3 hb3; unfold enV)
  | (refine wpList_store_row rfl 124 _ _ rfl g2 (enC Y (.slice q m5 d)) rfl rfl 124 _ HZ3.out (knC_sizeOf Y _ HPD.out) ((enC_size _ _ rfl).trans (enC_size Y _ HPD.out).symm) (enC_one _ _ _ _) ?_; generalize hw6 : World.setRow _ _ _ = w6))
 have HM6 : Km w6 g2 Y (.slice q m5 d) := by rw [← hw6]; exact Mx.row HZ3.out
 refine bodyPost_ret (HM6.res1 HPD.out rfl _ rfl) rfl ?_
 refine ⟨_, rfl, ?_, by rw [← hw6]; exact below_setRow8 (below_step HB.out HB3.out) _ _ (by have := HLT.out; omega)⟩
 exact Gw.mono (B := w2.heap.size) (HG3.out.iskeep fun b hb => by rw [← hw6]; exact setRow_other _ _ _ _ (by have h1 := HZ.out; have h2 := Mx.lt h1; omega)) HB.out.size
set_option maxRecDepth 100000 in
set_option maxHeartbeats 1000000 in
theorem pkeep_any (e : Pe) (s : Value) (p2 : Option Addr) (m2 c2 : Nat) (B : List Int) (w : World) (h : Is w s e.ins) (hs2 : Gs encI w p2 m2 B) (hd : dok e.dg) (hn : e.ins.length ≤ 2097152) (hm2 : m2 ≤ 2097152) :
 Calls Tryz.prog 86 #[enV e s, .slice p2 m2 c2] w fun r w' => KeG w (keepE e B) r w' := by
 obtain ⟨w0, w2, g1, h0, h2, hg1, hB⟩ := box2 w (enC e s) (enC zeroE (.slice none 0 0)) 59 59
 have HE : Hid (Em w2 w.heap.size e s) := Lib.hid hB.a
 have HZ : Hid (Em w2 g1 zeroE (.slice none 0 0)) := Lib.hid hB.z
 have HB := Lib.hid hB.le
 have HLT := Lib.hid hB.lt
 obtain ⟨p, c, rfl, hs, hpc, hnc, _⟩ := h.later hB.le
 have HBO := Lib.hid (pboth_any p e.ins.length c e.ins p2 m2 c2 B w2 hs hpc hnc (hs2.later hB.le) hn hm2)
 have HIN := Lib.hid fun W (hW : Below w.heap.size w W) => containsI_any p2 m2 c2 B e.seg W (hs2.later hW) hm2
 have HD := Lib.hid hd
 have HBL := Lib.hid (bothI_length e.ins B)
 obtain ⟨e0, e1, e2, cs⟩ := HE.out.cells hd.1
 obtain ⟨m, hm⟩ : ∃ m, e.ins.length = m := ⟨_, rfl⟩
 rw [hm] at HBO cs HBL
 have HR : Hid (keepE e B = _) := Lib.hid (by unfold keepE; rfl)
 obtain ⟨Y, hY⟩ : ∃ Y, bothI e.ins B = Y := ⟨_, rfl⟩
 rw [hY] at HBO HR HBL
 have hnil := len_nil (L := Y)
 have HNIL := Lib.hid hnil
 have hmm : m ≤ 2097152 := by omega
 rw [enZero] at h2
 unfold enV
 generalize hMC : enC e (Value.slice p e.ins.length c) = MC at *
 rw [hm] at hMC
 clear hMC hs hpc hnc hs2 h hd hB hm hY hnil hn
 go_enter Tryz.func86, Tryz.ntmps86
 go_upto_region 2 with (go_at_call 117
                        refine HBO.out.mono ?_
                        rintro r w3 ⟨v, rfl, ho3, hb3⟩
                        have HO3 := Lib.hid ho3
                        have HB3 := Lib.hid hb3
                        obtain ⟨q, d, hv, _⟩ := ho3.open
                        obtain ⟨n, hnn⟩ : ∃ n, Y.length = n := ⟨_, rfl⟩
                        rw [hnn] at hv HNIL HBL
                        subst hv
                        have HE3 := Lib.hid (HE.out.later hb3)
                        have HZ3 := Lib.hid (HZ.out.later hb3)
                        have hnl : n ≤ 2097152 := by have := HBL.out; omega
                        have fs := (HE3.out.cells HD.out.1).2.2.2
                        have hfr := Mx.frozen HE3.out 37
                        have HLT3 : Hid (w.heap.size < g1 ∧ g1 < w3.heap.size ∧ w2.heap.size ≤ w3.heap.size ∧ g1 < w2.heap.size) := Lib.hid (by have h1 := HLT.out; have h2 := hb3.size; omega)
                        obtain ⟨w4, hw4⟩ : ∃ W, w3.setCell ⟨w.heap.size, 37, none⟩ (.slice q n d) = W := ⟨_, rfl⟩
                        have HE4 : Hid (Em w4 w.heap.size { e with ins := Y } (.slice q n d)) := Lib.hid (by rw [← hw4]; exact Mx.setLast HE3.out HD.out.1 5 (.slice q n d))
                        have HZ4 : Hid (Em w4 g1 zeroE (.slice none 0 0)) := Lib.hid (by rw [← hw4]; exact Mx.other HZ3.out _ _ (by have := HLT3.out; show g1 ≠ w.heap.size; omega))
                        have HK4 : Hid (∀ b, b ≠ w.heap.size → w4.heap[b]? = w3.heap[b]?) := Lib.hid fun b hb => by rw [← hw4]; exact heap_setCell_other w3 ⟨w.heap.size, 37, none⟩ b _ hb
                        have HB4 : Hid (Below w.heap.size w w4) := Lib.hid (by rw [← hw4]; exact (below_step HB.out HB3.out).setCell (Nat.le_refl _) _)
                        have HIN4 := Lib.hid (HIN.out w4 HB4.out)
                        clear ho3 hb3 hnn e0 e1 e2 cs)
 obtain ⟨f0, f1, f2, f3⟩ := HE4.out.cells HD.out.1
 dsimp only at f0 f1 f2 f3
 clear hw4 fs hfr
 by_cases hin : e.seg ∈ B
 ·have hdi : decide (e.seg ∈ B) = true := by simpa using hin
  rw [hdi] at HIN4
  have HINB := Lib.hid hin
  clear hin hdi
  by_cases hy : (0 : Int) < (n : Int)
  ·have hn0 : ((n : Int) == 0) = false := by simp; omega
   have HRA : Hid (keepE e B = ({ e with ins := Y }, true)) := Lib.hid (by rw [HR.out, if_pos ⟨HINB.out, Or.inr (fun h => by have := HNIL.out.1 h; omega)⟩])
   go_upto_region 7 with (go_at_call 118; refine HIN4.out.mono ?_; rintro r w5 ⟨rfl, rfl⟩)
   go_wp2_with (first
    | (refine wpList_ld rfl 59 _ rfl _ rfl _ (HE4.out.load HD.out.1) ?_)
    | (refine wpList_store_row rfl 59 _ _ rfl g1 (enC { e with ins := Y } (.slice q n d)) rfl rfl 59 _ HZ4.out (enC_sizeOf { e with ins := Y } _ HD.out.1) ((enC_size _ _ rfl).trans (enC_size { e with ins := Y } _ HD.out.1).symm) (enC_one _ _ _ _) ?_; generalize hw6 : World.setRow _ _ _ = w6))
   have HM6 : Em w6 g1 { e with ins := Y } (.slice q n d) := by rw [← hw6]; exact Mx.row HZ4.out
   refine bodyPost_ret (HM6.res2 HD.out.1 rfl _ rfl) rfl ?_
   refine ⟨_, by rw [HRA.out]; rfl, ?_, by rw [← hw6]; exact below_setRow8 HB4.out _ _ (by have := HLT3.out; omega)⟩
   rw [HRA.out]
   exact Gw.mono (B := w2.heap.size) (HO3.out.iskeep fun b hb => by rw [← hw6, setRow_other _ _ _ _ (by have := HLT3.out; omega)]; exact HK4.out b (by have := HLT3.out; omega)) (by have := HLT3.out; omega)
  ·have hn0 : ((n : Int) == 0) = true := by simp; omega
   by_cases hk : e.k ≠ 5
   ·have HK := Lib.hid hk
    have hkt : (e.k == 5) = false := by simpa using hk
    have HRA : Hid (keepE e B = ({ e with ins := Y }, true)) := Lib.hid (by rw [HR.out, if_pos ⟨HINB.out, Or.inl HK.out⟩])
    clear hk
    go_upto_region 7 with (go_at_call 118; refine HIN4.out.mono ?_; rintro r w5 ⟨rfl, rfl⟩)
    go_wp2_with (first
     | (refine wpList_ld rfl 59 _ rfl _ rfl _ (HE4.out.load HD.out.1) ?_)
     | (refine wpList_store_row rfl 59 _ _ rfl g1 (enC { e with ins := Y } (.slice q n d)) rfl rfl 59 _ HZ4.out (enC_sizeOf { e with ins := Y } _ HD.out.1) ((enC_size _ _ rfl).trans (enC_size { e with ins := Y } _ HD.out.1).symm) (enC_one _ _ _ _) ?_; generalize hw6 : World.setRow _ _ _ = w6))
    have HM6 : Em w6 g1 { e with ins := Y } (.slice q n d) := by rw [← hw6]; exact Mx.row HZ4.out
    refine bodyPost_ret (HM6.res2 HD.out.1 rfl _ rfl) rfl ?_
    refine ⟨_, by rw [HRA.out]; rfl, ?_, by rw [← hw6]; exact below_setRow8 HB4.out _ _ (by have := HLT3.out; omega)⟩
    rw [HRA.out]
    exact Gw.mono (B := w2.heap.size) (HO3.out.iskeep fun b hb => by rw [← hw6, setRow_other _ _ _ _ (by have := HLT3.out; omega)]; exact HK4.out b (by have := HLT3.out; omega)) (by have := HLT3.out; omega)
   ·have HK : Hid (¬ e.k ≠ 5) := Lib.hid hk
    have hkt : (e.k == 5) = true := by simpa using hk
    have HY0 : Hid (Y = []) := Lib.hid (HNIL.out.2 (by omega))
    have HRC : Hid (keepE e B = (zeroE, false)) := Lib.hid (by rw [HR.out, if_neg (fun h => h.2.elim HK.out (fun h2 => h2 HY0.out)), if_neg (fun h => h HY0.out)])
    clear hk
    have HBU := Lib.hid built_en0
    go_upto_region 4 with (go_at_call 118; refine HIN4.out.mono ?_; rintro r w5 ⟨rfl, rfl⟩)
    go_wp2_with (first
     | (refine wpList_build_is rfl 59 _ rfl (enC zeroE (.slice none 0 0)) ?_ ?_; focus (first | (simp only [List.map_toArray, List.map_nil]; exact HBU.out) | (simp only [Array.map_empty]; exact HBU.out) | (simp; exact HBU.out)))
     | (refine wpList_store_row rfl 59 _ _ rfl g1 (enC zeroE (.slice none 0 0)) rfl rfl 59 _ HZ4.out (enC_sizeOf zeroE _ rfl) rfl (enC_one _ _ _ _) ?_; generalize hw6 : World.setRow _ _ _ = w6))
    have HM6 : Em w6 g1 zeroE (.slice none 0 0) := by rw [← hw6]; exact Mx.row HZ4.out
    refine bodyPost_ret (HM6.res2 rfl rfl _ rfl) rfl ?_
    refine ⟨_, by rw [HRC.out]; rfl, ?_, by rw [← hw6]; exact below_setRow8 HB4.out _ _ (by have := HLT3.out; omega)⟩
    rw [HRC.out]
    exact Gw.nil _ _ _
 ·have hdi : decide (e.seg ∈ B) = false := by simpa using hin
  rw [hdi] at HIN4
  have HINB := Lib.hid hin
  clear hin hdi
  by_cases hy : (0 : Int) < (n : Int)
  ·have hn0 : ((n : Int) == 0) = false := by simp; omega
   have HRB : Hid (keepE e B = (⟨e.dg, 5, 0, 0, 0, 0, Y⟩, true)) := Lib.hid (by rw [HR.out, if_neg (fun h => HINB.out h.1), if_pos (fun h => by have := HNIL.out.1 h; omega)])
   have HBU := Lib.hid (built_en3 5 Y q n d e.dg HD.out.1)
   have HLD := Lib.hid (HE4.out.dig HD.out.1)
   go_upto_region 6 with (go_at_call 118; refine HIN4.out.mono ?_; rintro r w5 ⟨rfl, rfl⟩)
   go_wp2_with (first
    | (refine wpList_ld rfl 35 _ rfl _ rfl _ HLD.out ?_)
    | (refine wpList_build_is rfl 59 _ rfl (enC ⟨e.dg, 5, 0, 0, 0, 0, Y⟩ (.slice q n d)) ?_ ?_; focus (first | exact HBU.out | (simp only [List.map_toArray, List.map_cons, List.map_nil]; exact HBU.out)))
    | (refine wpList_store_row rfl 59 _ _ rfl g1 (enC ⟨e.dg, 5, 0, 0, 0, 0, Y⟩ (.slice q n d)) rfl rfl 59 _ HZ4.out (enC_sizeOf ⟨e.dg, 5, 0, 0, 0, 0, Y⟩ _ HD.out.1) ((enC_size _ _ rfl).trans (enC_size ⟨e.dg, 5, 0, 0, 0, 0, Y⟩ _ HD.out.1).symm) (enC_one _ _ _ _) ?_; generalize hw6 : World.setRow _ _ _ = w6))
   have HM6 : Em w6 g1 ⟨e.dg, 5, 0, 0, 0, 0, Y⟩ (.slice q n d) := by rw [← hw6]; exact Mx.row HZ4.out
   refine bodyPost_ret (HM6.res2 HD.out.1 rfl _ rfl) rfl ?_
   refine ⟨_, by rw [HRB.out]; rfl, ?_, by rw [← hw6]; exact below_setRow8 HB4.out _ _ (by have := HLT3.out; omega)⟩
   rw [HRB.out]
   exact Gw.mono (B := w2.heap.size) (HO3.out.iskeep fun b hb => by rw [← hw6, setRow_other _ _ _ _ (by have := HLT3.out; omega)]; exact HK4.out b (by have := HLT3.out; omega)) (by have := HLT3.out; omega)
  ·have hn0 : ((n : Int) == 0) = true := by simp; omega
   have HY0 : Hid (Y = []) := Lib.hid (HNIL.out.2 (by omega))
   have HRC : Hid (keepE e B = (zeroE, false)) := Lib.hid (by rw [HR.out, if_neg (fun h => HINB.out h.1), if_neg (fun h => h HY0.out)])
   have HBU := Lib.hid built_en0
   go_upto_region 4 with (go_at_call 118; refine HIN4.out.mono ?_; rintro r w5 ⟨rfl, rfl⟩)
   go_wp2_with (first
    | (refine wpList_build_is rfl 59 _ rfl (enC zeroE (.slice none 0 0)) ?_ ?_; focus (first | (simp only [List.map_toArray, List.map_nil]; exact HBU.out) | (simp only [Array.map_empty]; exact HBU.out) | (simp; exact HBU.out)))
    | (refine wpList_store_row rfl 59 _ _ rfl g1 (enC zeroE (.slice none 0 0)) rfl rfl 59 _ HZ4.out (enC_sizeOf zeroE _ rfl) rfl (enC_one _ _ _ _) ?_; generalize hw6 : World.setRow _ _ _ = w6))
   have HM6 : Em w6 g1 zeroE (.slice none 0 0) := by rw [← hw6]; exact Mx.row HZ4.out
   refine bodyPost_ret (HM6.res2 rfl rfl _ rfl) rfl ?_
   refine ⟨_, by rw [HRC.out]; rfl, ?_, by rw [← hw6]; exact below_setRow8 HB4.out _ _ (by have := HLT3.out; omega)⟩
   rw [HRC.out]
   exact Gw.nil _ _ _
set_option maxRecDepth 100000 in
set_option maxHeartbeats 4000000 in
theorem ptag_any (e : Pt) (s : Value) (x : Wq) (w : World) (h : Is w s e.ins) (hd : dok e.dg) (hx : dok x.dg) (hn : e.ins.length ≤ 2097152) :
 Calls Tryz.prog 79 #[tnV e s, x.v] w fun r w' => TnG w (tagT e x) r w' := by
 obtain ⟨w0, w1, w2, g1, g2, h0, h1, h2, hg1, hg2, hB⟩ := box3 w (tnC e s) (mixC x.a x.dg x.t) (tnC zeroT (.slice none 0 0)) 64 39 64
 have HE : Hid (Tn w2 w.heap.size e s) := Lib.hid hB.a
 have HX : Hid (Wm w2 g1 x) := Lib.hid hB.b
 have HZ : Hid (Tn w2 g2 zeroT (.slice none 0 0)) := Lib.hid hB.z
 have HB := Lib.hid hB.le
 have HLT := Lib.hid hB.lt
 have HS := Lib.hid (h.later hB.le)
 obtain ⟨p, c, rfl, hs, hpc, hnc, _⟩ := h.later hB.le
 have HRO := Lib.hid fun W (hW : Below w2.heap.size w2 W) => with_any p e.ins.length c e.ins x.seg W (hs.later hW) hpc hnc hn
 have HD := Lib.hid hd
 have HXD := Lib.hid hx
 have HN := Lib.hid hn
 have HLX := Lib.hid fun W (hW : Below w2.heap.size w2 W) => (HX.out.later hW).dig hx.1
 have HLC := Lib.hid fun W (hW : Below w2.heap.size w2 W) => (HX.out.later hW).loc hx.1
 obtain ⟨m, hm⟩ : ∃ m, e.ins.length = m := ⟨_, rfl⟩
 rw [hm] at HRO
 have HML := Lib.hid hm
 obtain ⟨e0, e1, e2, cs⟩ := HE.out.cells hd.1
 obtain ⟨x0, x1, x2, x3⟩ := HX.out.cells5 hx.1
 rw [hm] at cs
 have HSC := Lib.hid (show (fun W : World => W.cell? ⟨g1, 34, none⟩ = some (.string x.nm) ∧ W.cell? ⟨g1, 36, none⟩ = some (.int .i64 x.seg) ∧ W.cell? ⟨w.heap.size, 37, none⟩ = some (.slice p m c) ∧ Below w2.heap.size w2 W) w2 from ⟨x1, x3, cs, Below.refl _ _⟩)
 rw [tnZero] at h2
 unfold tnV Wq.v
 generalize hMC : tnC e (Value.slice p e.ins.length c) = MC at *
 generalize hMX : mixC x.a x.dg x.t = MX at *
 rw [hm] at hMC
 clear hMC hMX hs hpc hnc hd hx hn hB hm cs e0 e1 e2 x0 x1 x2 x3
 go_enter Tryz.func79, Tryz.ntmps79
 go_upto_region 1 with fail
 refine wp_region_x (fun W : World => W.cell? ⟨g1, 34, none⟩ = some (.string x.nm) ∧ W.cell? ⟨g1, 36, none⟩ = some (.int .i64 x.seg) ∧ W.cell? ⟨w.heap.size, 37, none⟩ = some (.slice p m c) ∧ Below w2.heap.size w2 W) 13 (by kernel_rfl) ?_
 have hHeld : (fun W : World => W.cell? ⟨g1, 34, none⟩ = some (.string x.nm) ∧ W.cell? ⟨g1, 36, none⟩ = some (.int .i64 x.seg) ∧ W.cell? ⟨w.heap.size, 37, none⟩ = some (.slice p m c) ∧ Below w2.heap.size w2 W) _ := (show (fun W : World => W.cell? ⟨g1, 34, none⟩ = some (.string x.nm) ∧ W.cell? ⟨g1, 36, none⟩ = some (.int .i64 x.seg) ∧ W.cell? ⟨w.heap.size, 37, none⟩ = some (.slice p m c) ∧ Below w2.heap.size w2 W) (World.drew w2) from ⟨HSC.out.1, HSC.out.2.1, HSC.out.2.2.1, (Below.refl _ _).drew⟩)
 refine tkx 0 rfl ?_;(try simp only [PT]);refine tkx 1 rfl ?_;(try simp only [PT]);refine tkx 2 rfl ?_;(try simp only [PT])
 refine tkxL 3 rfl (yieldsIf_ld (by rfl) 35 (.tmp 7) rfl (.pointer (some ⟨g1, 2, none⟩)) rfl (.agg (bcs x.dg)) (fun W hW => HLX.out W (hW.2.2.2))) ?_
 (try simp only [PT])
 refine tkx 4 rfl ?_;(try simp only [PT])
 refine tkxL 5 rfl (yieldsIf_ld (by rfl) 37 (.tmp 9) rfl (.pointer (some ⟨g1, 36, none⟩)) rfl (.agg (lcA x.seg x.off x.len)) (fun W hW => HLC.out W (hW.2.2.2))) ?_
 (try simp only [PT])
 refine tkx 6 rfl ?_;(try simp only [PT]);refine tkx 7 rfl ?_;(try simp only [PT]);refine tkx 8 rfl ?_;(try simp only [PT]);refine tkx 9 rfl ?_;(try simp only [PT]);refine tkx 10 rfl ?_;(try simp only [PT])
 refine readyx 11 rfl (by kernel_rfl) (fun K hK => ?_)
 go_simp
 refine (HRO.out _ (hHeld.2.2.2)).mono ?_
 rintro r w5 ⟨v5, rfl, ho5, hb5⟩
 have hb25 := below_step (hHeld.2.2.2) hb5
 obtain ⟨q, d, hv5, _⟩ := ho5.open
 obtain ⟨n, hnn⟩ : ∃ n, (putI (rowI e.ins) x.seg).length = n := ⟨_, rfl⟩
 rw [hnn] at hv5
 subst hv5
 have HO5 := Lib.hid ho5
 obtain ⟨y0, y1, y2, y3⟩ := (HE.out.later hb25).cells HD.out.1
 obtain ⟨z0, z1, z2, z3⟩ := (HX.out.later hb25).cells5 HXD.out.1
 rw [show e.ins.length = m from HML.out] at y3
 have k_x1 := z1
 have k_x3 := z3
 have k_cs := y3
 clear y0 y1 y2 z0 z1 z2 z3
 clear hb5 ho5
 have HBL5 : Hid (g2 < _) := Lib.hid (Nat.lt_of_lt_of_le HZ.out.lt (Below.size hHeld.2.2.2))
 first
  | refine hK.out _ _ ?hS37 ?rest37
  | (go_wp2_with fail; refine hK.out _ _ ?hS37 ?rest37)
 case hS37 => exact ⟨k_x1, k_x3, k_cs, hb25⟩
 clear hK K hHeld
 have hHeld : (fun W : World => W.cell? ⟨g1, 34, none⟩ = some (.string x.nm) ∧ W.cell? ⟨g1, 36, none⟩ = some (.int .i64 x.seg) ∧ W.cell? ⟨w.heap.size, 37, none⟩ = some (.slice p m c) ∧ Below w2.heap.size w2 W) _ := ⟨k_x1, k_x3, k_cs, hb25⟩
 (try simp only [PT])
 refine tkxL 12 rfl (yieldsIf_build (by rfl) 64 #[(0, .tmp 6), (1, .tmp 8), (3, .tmp 10), (4, .tmp 16)] rfl (tnC (tagT e x) (.slice q n d)) (by first | exact (built_tn4 x.nm x.seg x.off x.len (putI (rowI e.ins) x.seg) q n d x.dg HXD.out.1) | (simp only [List.map_toArray, List.map_cons, List.map_nil]; exact (built_tn4 x.nm x.seg x.off x.len (putI (rowI e.ins) x.seg) q n d x.dg HXD.out.1)))) ?_
 (try simp only [PT])
 refine lastx 13 rfl (by kernel_rfl) (by kernel_rfl) (fun K hK => ?_)
 rw [if_pos (by rfl)]
 have HZ5 := Lib.hid (HZ.out.later hb25)
 have HIS : Hid (Is w5 (.slice q n d) (putI (rowI e.ins) x.seg)) := Lib.hid (by have h := HO5.out.is; exact h)
 have hlz : g2 < w5.heap.size := HZ5.out.lt
 have hgl : w.heap.size ≤ g2 := by have := HLT.out; omega
 have HMZ : Hid (Tn (w5.setRow g2 (tnC (tagT e x) (.slice q n d))) g2 (tagT e x) (.slice q n d)) := Lib.hid (Mx.row HZ5.out)
 have HBZ : Hid (Below w.heap.size w (w5.setRow g2 (tnC (tagT e x) (.slice q n d)))) := Lib.hid (below_setRow8 (below_step HB.out hb25) _ _ hgl)
 have HIZ : Hid (Gw encI (w5.setRow g2 (tnC (tagT e x) (.slice q n d))) w.heap.size (.slice q n d) (putI (rowI e.ins) x.seg)) := Lib.hid ((Gw.isrow HO5.out HZ5.out HBL5.out).mono (by have h1 := HBL5.out; have h2 := HLT.out; omega))
 refine wp_store_row 64 _ _ rfl g2 (tnC (tagT e x) (.slice q n d)) rfl rfl 64 _ HZ5.out (tnC_sizeOf (tagT e x) _ HXD.out.1) ((tnC_size _ _ rfl).trans (tnC_size (tagT e x) _ HXD.out.1).symm) (tnC_one _ _ _ _) ?_
 generalize World.setRow _ _ _ = wZ at *
 first
  | refine hK.out _ _ ?_
  | (go_wp2_with fail; refine hK.out _ _ ?_)
 clear hK K hHeld
 go_wp2
 refine bodyPost_ret (HMZ.out.res1 HXD.out.1 rfl _ rfl) rfl ?_
 exact ⟨_, rfl, HIZ.out, HBZ.out⟩
set_option maxRecDepth 100000 in
set_option maxHeartbeats 4000000 in
theorem punt_any (e : Pt) (s : Value) (x : Wq) (w : World) (h : Is w s e.ins) (hd : dok e.dg) (hx : dok x.dg) (hn : e.ins.length ≤ 2097152) :
 Calls Tryz.prog 80 #[tnV e s, x.v] w fun r w' => TnG w (untT e x) r w' := by
 obtain ⟨w0, w1, w2, g1, g2, h0, h1, h2, hg1, hg2, hB⟩ := box3 w (tnC e s) (mixC x.a x.dg x.t) (tnC zeroT (.slice none 0 0)) 64 39 64
 have HE : Hid (Tn w2 w.heap.size e s) := Lib.hid hB.a
 have HX : Hid (Wm w2 g1 x) := Lib.hid hB.b
 have HZ : Hid (Tn w2 g2 zeroT (.slice none 0 0)) := Lib.hid hB.z
 have HB := Lib.hid hB.le
 have HLT := Lib.hid hB.lt
 have HS := Lib.hid (h.later hB.le)
 obtain ⟨p, c, rfl, hs, hpc, hnc, _⟩ := h.later hB.le
 have HRO := Lib.hid fun W (hW : Below w2.heap.size w2 W) => asc_any p e.ins.length c e.ins W (hs.later hW) hpc hnc (by omega)
 have HD := Lib.hid hd
 have HXD := Lib.hid hx
 have HN := Lib.hid hn
 have HLC := Lib.hid fun W (hW : Below w2.heap.size w2 W) => (HX.out.later hW).loc hx.1
 obtain ⟨m, hm⟩ : ∃ m, e.ins.length = m := ⟨_, rfl⟩
 rw [hm] at HRO
 have HML := Lib.hid hm
 obtain ⟨e0, e1, e2, cs⟩ := HE.out.cells hd.1
 obtain ⟨x0, x1, x2, x3⟩ := HX.out.cells5 hx.1
 rw [hm] at cs
 have HSC := Lib.hid (show (fun W : World => W.cell? ⟨w.heap.size, 0, none⟩ = some (.string e.nm) ∧ W.cell? ⟨w.heap.size, 37, none⟩ = some (.slice p m c) ∧ Below w2.heap.size w2 W) w2 from ⟨e0, cs, Below.refl _ _⟩)
 rw [tnZero] at h2
 unfold tnV Wq.v
 generalize hMC : tnC e (Value.slice p e.ins.length c) = MC at *
 generalize hMX : mixC x.a x.dg x.t = MX at *
 rw [hm] at hMC
 clear hMC hMX hs hpc hnc hd hx hn hB hm cs e0 e1 e2 x0 x1 x2 x3
 go_enter Tryz.func80, Tryz.ntmps80
 go_upto_region 1 with fail
 refine wp_region_x (fun W : World => W.cell? ⟨w.heap.size, 0, none⟩ = some (.string e.nm) ∧ W.cell? ⟨w.heap.size, 37, none⟩ = some (.slice p m c) ∧ Below w2.heap.size w2 W) 8 (by kernel_rfl) ?_
 have hHeld : (fun W : World => W.cell? ⟨w.heap.size, 0, none⟩ = some (.string e.nm) ∧ W.cell? ⟨w.heap.size, 37, none⟩ = some (.slice p m c) ∧ Below w2.heap.size w2 W) _ := (show (fun W : World => W.cell? ⟨w.heap.size, 0, none⟩ = some (.string e.nm) ∧ W.cell? ⟨w.heap.size, 37, none⟩ = some (.slice p m c) ∧ Below w2.heap.size w2 W) (World.drew w2) from ⟨HSC.out.1, HSC.out.2.1, (Below.refl _ _).drew⟩)
 refine tkx 0 rfl ?_;(try simp only [PT]);refine tkx 1 rfl ?_;(try simp only [PT]);refine tkx 2 rfl ?_;(try simp only [PT])
 refine tkxL 3 rfl (yieldsIf_ld (by rfl) 37 (.tmp 7) rfl (.pointer (some ⟨g1, 36, none⟩)) rfl (.agg (lcA x.seg x.off x.len)) (fun W hW => HLC.out W (hW.2.2))) ?_
 (try simp only [PT])
 refine tkx 4 rfl ?_;(try simp only [PT]);refine tkx 5 rfl ?_;(try simp only [PT])
 refine readyx 6 rfl (by kernel_rfl) (fun K hK => ?_)
 go_simp
 refine (HRO.out _ (hHeld.2.2)).mono ?_
 rintro r w5 ⟨v5, rfl, ho5, hb5⟩
 have hb25 := below_step (hHeld.2.2) hb5
 obtain ⟨q, d, hv5, _⟩ := ho5.open
 obtain ⟨n, hnn⟩ : ∃ n, (rowI e.ins).length = n := ⟨_, rfl⟩
 rw [hnn] at hv5
 subst hv5
 have HO5 := Lib.hid ho5
 obtain ⟨y0, y1, y2, y3⟩ := (HE.out.later hb25).cells HD.out.1
 obtain ⟨z0, z1, z2, z3⟩ := (HX.out.later hb25).cells5 HXD.out.1
 rw [show e.ins.length = m from HML.out] at y3
 have k_e0 := y0
 have k_cs := y3
 clear y0 y1 y2 z0 z1 z2 z3
 clear hb5 ho5
 have HBL5 : Hid (g2 < _) := Lib.hid (Nat.lt_of_lt_of_le HZ.out.lt (Below.size hHeld.2.2))
 first
  | refine hK.out _ _ ?hS46 ?rest46
  | (go_wp2_with fail; refine hK.out _ _ ?hS46 ?rest46)
 case hS46 => exact ⟨k_e0, k_cs, hb25⟩
 clear hK K hHeld
 have hHeld : (fun W : World => W.cell? ⟨w.heap.size, 0, none⟩ = some (.string e.nm) ∧ W.cell? ⟨w.heap.size, 37, none⟩ = some (.slice p m c) ∧ Below w2.heap.size w2 W) _ := ⟨k_e0, k_cs, hb25⟩
 (try simp only [PT])
 refine tkxL 7 rfl (yieldsIf_build (by rfl) 64 #[(0, .tmp 6), (2, .const (.bool true)), (3, .tmp 8), (4, .tmp 11)] rfl (tnC (untT e x) (.slice q n d)) (by first | exact (built_un4 e.nm x.seg x.off x.len (rowI e.ins) q n d) | (simp only [List.map_toArray, List.map_cons, List.map_nil]; exact (built_un4 e.nm x.seg x.off x.len (rowI e.ins) q n d)))) ?_
 (try simp only [PT])
 refine lastx 8 rfl (by kernel_rfl) (by kernel_rfl) (fun K hK => ?_)
 rw [if_pos (by rfl)]
 have HZ5 := Lib.hid (HZ.out.later hb25)
 have HIS : Hid (Is w5 (.slice q n d) (rowI e.ins)) := Lib.hid (by have h := HO5.out.is; exact h)
 have hlz : g2 < w5.heap.size := HZ5.out.lt
 have hgl : w.heap.size ≤ g2 := by have := HLT.out; omega
 have HMZ : Hid (Tn (w5.setRow g2 (tnC (untT e x) (.slice q n d))) g2 (untT e x) (.slice q n d)) := Lib.hid (Mx.row HZ5.out)
 have HBZ : Hid (Below w.heap.size w (w5.setRow g2 (tnC (untT e x) (.slice q n d)))) := Lib.hid (below_setRow8 (below_step HB.out hb25) _ _ hgl)
 have HIZ : Hid (Gw encI (w5.setRow g2 (tnC (untT e x) (.slice q n d))) w.heap.size (.slice q n d) (rowI e.ins)) := Lib.hid ((Gw.isrow HO5.out HZ5.out HBL5.out).mono (by have h1 := HBL5.out; have h2 := HLT.out; omega))
 refine wp_store_row 64 _ _ rfl g2 (tnC (untT e x) (.slice q n d)) rfl rfl 64 _ HZ5.out (tnC_sizeOf (untT e x) _ rfl) ((tnC_size _ _ rfl).trans (tnC_size (untT e x) _ rfl).symm) (tnC_one _ _ _ _) ?_
 generalize World.setRow _ _ _ = wZ at *
 first
  | refine hK.out _ _ ?_
  | (go_wp2_with fail; refine hK.out _ _ ?_)
 clear hK K hHeld
 go_wp2
 refine bodyPost_ret (HMZ.out.res1 rfl rfl _ rfl) rfl ?_
 exact ⟨_, rfl, HIZ.out, HBZ.out⟩
set_option maxRecDepth 100000 in
set_option maxHeartbeats 1000000 in
theorem pkeept_any (e : Pt) (s : Value) (p2 : Option Addr) (m2 c2 : Nat) (B : List Int) (w : World) (h : Is w s e.ins) (hs2 : Gs encI w p2 m2 B) (hd : dok e.dg) (hn : e.ins.length ≤ 2097152) (hm2 : m2 ≤ 2097152) :
 Calls Tryz.prog 88 #[tnV e s, .slice p2 m2 c2] w fun r w' => KtG w (keepT e B) r w' := by
 obtain ⟨w0, w2, g1, h0, h2, hg1, hB⟩ := box2 w (tnC e s) (tnC zeroT (.slice none 0 0)) 64 64
 have HE : Hid (Tn w2 w.heap.size e s) := Lib.hid hB.a
 have HZ : Hid (Tn w2 g1 zeroT (.slice none 0 0)) := Lib.hid hB.z
 have HB := Lib.hid hB.le
 have HLT := Lib.hid hB.lt
 obtain ⟨p, c, rfl, hs, hpc, hnc, _⟩ := h.later hB.le
 have HBO := Lib.hid (pboth_any p e.ins.length c e.ins p2 m2 c2 B w2 hs hpc hnc (hs2.later hB.le) hn hm2)
 have HIN := Lib.hid fun W (hW : Below w.heap.size w W) => containsI_any p2 m2 c2 B e.seg W (hs2.later hW) hm2
 have HD := Lib.hid hd
 have HBL := Lib.hid (bothI_length e.ins B)
 obtain ⟨e0, e1, e2, cs⟩ := HE.out.cells hd.1
 obtain ⟨m, hm⟩ : ∃ m, e.ins.length = m := ⟨_, rfl⟩
 rw [hm] at HBO cs HBL
 have HR : Hid (keepT e B = _) := Lib.hid (by unfold keepT; rfl)
 obtain ⟨Y, hY⟩ : ∃ Y, bothI e.ins B = Y := ⟨_, rfl⟩
 rw [hY] at HBO HR HBL
 have hnil := len_nil (L := Y)
 have HNIL := Lib.hid hnil
 have hmm : m ≤ 2097152 := by omega
 rw [tnZero] at h2
 unfold tnV
 generalize hMC : tnC e (Value.slice p e.ins.length c) = MC at *
 rw [hm] at hMC
 clear hMC hs hpc hnc hs2 h hd hB hm hY hnil hn
 go_enter Tryz.func88, Tryz.ntmps88
 go_upto_region 2 with (go_at_call 117
                        refine HBO.out.mono ?_
                        rintro r w3 ⟨v, rfl, ho3, hb3⟩
                        have HO3 := Lib.hid ho3
                        have HB3 := Lib.hid hb3
                        obtain ⟨q, d, hv, _⟩ := ho3.open
                        obtain ⟨n, hnn⟩ : ∃ n, Y.length = n := ⟨_, rfl⟩
                        rw [hnn] at hv HNIL HBL
                        subst hv
                        have HE3 := Lib.hid (HE.out.later hb3)
                        have HZ3 := Lib.hid (HZ.out.later hb3)
                        have hnl : n ≤ 2097152 := by have := HBL.out; omega
                        have fs := (HE3.out.cells HD.out.1).2.2.2
                        have hfr := Mx.frozen HE3.out 37
                        have HLT3 : Hid (w.heap.size < g1 ∧ g1 < w3.heap.size ∧ w2.heap.size ≤ w3.heap.size ∧ g1 < w2.heap.size) := Lib.hid (by have h1 := HLT.out; have h2 := hb3.size; omega)
                        obtain ⟨w4, hw4⟩ : ∃ W, w3.setCell ⟨w.heap.size, 37, none⟩ (.slice q n d) = W := ⟨_, rfl⟩
                        have HE4 : Hid (Tn w4 w.heap.size { e with ins := Y } (.slice q n d)) := Lib.hid (by rw [← hw4]; exact Mx.setLast HE3.out HD.out.1 4 (.slice q n d))
                        have HZ4 : Hid (Tn w4 g1 zeroT (.slice none 0 0)) := Lib.hid (by rw [← hw4]; exact Mx.other HZ3.out _ _ (by have := HLT3.out; show g1 ≠ w.heap.size; omega))
                        have HK4 : Hid (∀ b, b ≠ w.heap.size → w4.heap[b]? = w3.heap[b]?) := Lib.hid fun b hb => by rw [← hw4]; exact heap_setCell_other w3 ⟨w.heap.size, 37, none⟩ b _ hb
                        have HB4 : Hid (Below w.heap.size w w4) := Lib.hid (by rw [← hw4]; exact (below_step HB.out HB3.out).setCell (Nat.le_refl _) _)
                        have HIN4 := Lib.hid (HIN.out w4 HB4.out)
                        clear ho3 hb3 hnn e0 e1 e2 cs)
 obtain ⟨f0, f1, f2, f3⟩ := HE4.out.cells HD.out.1
 dsimp only at f0 f1 f2 f3
 clear hw4 fs hfr
 by_cases hin : e.seg ∈ B
 ·have hdi : decide (e.seg ∈ B) = true := by simpa using hin
  rw [hdi] at HIN4
  have HINB := Lib.hid hin
  clear hin hdi
  by_cases hy : (0 : Int) < (n : Int)
  ·have hn0 : ((n : Int) == 0) = false := by simp; omega
   have HRA : Hid (keepT e B = ({ e with ins := Y }, true)) := Lib.hid (by rw [HR.out, if_pos ⟨HINB.out, Or.inr (fun h => by have := HNIL.out.1 h; omega)⟩])
   go_upto_region 7 with (go_at_call 118; refine HIN4.out.mono ?_; rintro r w5 ⟨rfl, rfl⟩)
   go_wp2_with (first
    | (refine wpList_ld rfl 64 _ rfl _ rfl _ (HE4.out.load HD.out.1) ?_)
    | (refine wpList_store_row rfl 64 _ _ rfl g1 (tnC { e with ins := Y } (.slice q n d)) rfl rfl 64 _ HZ4.out (tnC_sizeOf { e with ins := Y } _ HD.out.1) ((tnC_size _ _ rfl).trans (tnC_size { e with ins := Y } _ HD.out.1).symm) (tnC_one _ _ _ _) ?_; generalize hw6 : World.setRow _ _ _ = w6))
   have HM6 : Tn w6 g1 { e with ins := Y } (.slice q n d) := by rw [← hw6]; exact Mx.row HZ4.out
   refine bodyPost_ret (HM6.res2 HD.out.1 rfl _ rfl) rfl ?_
   refine ⟨_, by rw [HRA.out]; rfl, ?_, by rw [← hw6]; exact below_setRow8 HB4.out _ _ (by have := HLT3.out; omega)⟩
   rw [HRA.out]
   exact Gw.mono (B := w2.heap.size) (HO3.out.iskeep fun b hb => by rw [← hw6, setRow_other _ _ _ _ (by have := HLT3.out; omega)]; exact HK4.out b (by have := HLT3.out; omega)) (by have := HLT3.out; omega)
  ·have hn0 : ((n : Int) == 0) = true := by simp; omega
   by_cases hk : e.gone = false
   ·have HK := Lib.hid hk
    rw [hk] at f1
    have HRA : Hid (keepT e B = ({ e with ins := Y }, true)) := Lib.hid (by rw [HR.out, if_pos ⟨HINB.out, Or.inl HK.out⟩])
    clear hk
    go_upto_region 7 with (go_at_call 118; refine HIN4.out.mono ?_; rintro r w5 ⟨rfl, rfl⟩)
    go_wp2_with (first
     | (refine wpList_ld rfl 64 _ rfl _ rfl _ (HE4.out.load HD.out.1) ?_)
     | (refine wpList_store_row rfl 64 _ _ rfl g1 (tnC { e with ins := Y } (.slice q n d)) rfl rfl 64 _ HZ4.out (tnC_sizeOf { e with ins := Y } _ HD.out.1) ((tnC_size _ _ rfl).trans (tnC_size { e with ins := Y } _ HD.out.1).symm) (tnC_one _ _ _ _) ?_; generalize hw6 : World.setRow _ _ _ = w6))
    have HM6 : Tn w6 g1 { e with ins := Y } (.slice q n d) := by rw [← hw6]; exact Mx.row HZ4.out
    refine bodyPost_ret (HM6.res2 HD.out.1 rfl _ rfl) rfl ?_
    refine ⟨_, by rw [HRA.out]; rfl, ?_, by rw [← hw6]; exact below_setRow8 HB4.out _ _ (by have := HLT3.out; omega)⟩
    rw [HRA.out]
    exact Gw.mono (B := w2.heap.size) (HO3.out.iskeep fun b hb => by rw [← hw6, setRow_other _ _ _ _ (by have := HLT3.out; omega)]; exact HK4.out b (by have := HLT3.out; omega)) (by have := HLT3.out; omega)
   ·have HK : Hid (¬ e.gone = false) := Lib.hid hk
    have hkt : e.gone = true := by simpa using hk
    rw [hkt] at f1
    have HY0 : Hid (Y = []) := Lib.hid (HNIL.out.2 (by omega))
    have HRC : Hid (keepT e B = (zeroT, false)) := Lib.hid (by rw [HR.out, if_neg (fun h => h.2.elim HK.out (fun h2 => h2 HY0.out)), if_neg (fun h => h HY0.out)])
    clear hk
    have HBU := Lib.hid built_tn0
    go_upto_region 4 with (go_at_call 118; refine HIN4.out.mono ?_; rintro r w5 ⟨rfl, rfl⟩)
    go_wp2_with (first
     | (refine wpList_build_is rfl 64 _ rfl (tnC zeroT (.slice none 0 0)) ?_ ?_; focus (first | (simp only [List.map_toArray, List.map_nil]; exact HBU.out) | (simp only [Array.map_empty]; exact HBU.out) | (simp; exact HBU.out)))
     | (refine wpList_store_row rfl 64 _ _ rfl g1 (tnC zeroT (.slice none 0 0)) rfl rfl 64 _ HZ4.out (tnC_sizeOf zeroT _ rfl) rfl (tnC_one _ _ _ _) ?_; generalize hw6 : World.setRow _ _ _ = w6))
    have HM6 : Tn w6 g1 zeroT (.slice none 0 0) := by rw [← hw6]; exact Mx.row HZ4.out
    refine bodyPost_ret (HM6.res2 rfl rfl _ rfl) rfl ?_
    refine ⟨_, by rw [HRC.out]; rfl, ?_, by rw [← hw6]; exact below_setRow8 HB4.out _ _ (by have := HLT3.out; omega)⟩
    rw [HRC.out]
    exact Gw.nil _ _ _
 ·have hdi : decide (e.seg ∈ B) = false := by simpa using hin
  rw [hdi] at HIN4
  have HINB := Lib.hid hin
  clear hin hdi
  by_cases hy : (0 : Int) < (n : Int)
  ·have hn0 : ((n : Int) == 0) = false := by simp; omega
   have HRB : Hid (keepT e B = (⟨e.nm, dz32, true, 0, 0, 0, Y⟩, true)) := Lib.hid (by rw [HR.out, if_neg (fun h => HINB.out h.1), if_pos (fun h => by have := HNIL.out.1 h; omega)])
   have HBU := Lib.hid (built_un3 e.nm Y q n d)
   have HLD := Lib.hid (HE4.out.dig HD.out.1)
   go_upto_region 6 with (go_at_call 118; refine HIN4.out.mono ?_; rintro r w5 ⟨rfl, rfl⟩)
   go_wp2_with (first
    | (refine wpList_ld rfl 35 _ rfl _ rfl _ HLD.out ?_)
    | (refine wpList_build_is rfl 64 _ rfl (tnC ⟨e.nm, dz32, true, 0, 0, 0, Y⟩ (.slice q n d)) ?_ ?_; focus (first | exact HBU.out | (simp only [List.map_toArray, List.map_cons, List.map_nil]; exact HBU.out)))
    | (refine wpList_store_row rfl 64 _ _ rfl g1 (tnC ⟨e.nm, dz32, true, 0, 0, 0, Y⟩ (.slice q n d)) rfl rfl 64 _ HZ4.out (tnC_sizeOf ⟨e.nm, dz32, true, 0, 0, 0, Y⟩ _ rfl) ((tnC_size _ _ rfl).trans (tnC_size ⟨e.nm, dz32, true, 0, 0, 0, Y⟩ _ rfl).symm) (tnC_one _ _ _ _) ?_; generalize hw6 : World.setRow _ _ _ = w6))
   have HM6 : Tn w6 g1 ⟨e.nm, dz32, true, 0, 0, 0, Y⟩ (.slice q n d) := by rw [← hw6]; exact Mx.row HZ4.out
   refine bodyPost_ret (HM6.res2 rfl rfl _ rfl) rfl ?_
   refine ⟨_, by rw [HRB.out]; rfl, ?_, by rw [← hw6]; exact below_setRow8 HB4.out _ _ (by have := HLT3.out; omega)⟩
   rw [HRB.out]
   exact Gw.mono (B := w2.heap.size) (HO3.out.iskeep fun b hb => by rw [← hw6, setRow_other _ _ _ _ (by have := HLT3.out; omega)]; exact HK4.out b (by have := HLT3.out; omega)) (by have := HLT3.out; omega)
  ·have hn0 : ((n : Int) == 0) = true := by simp; omega
   have HY0 : Hid (Y = []) := Lib.hid (HNIL.out.2 (by omega))
   have HRC : Hid (keepT e B = (zeroT, false)) := Lib.hid (by rw [HR.out, if_neg (fun h => HINB.out h.1), if_neg (fun h => h HY0.out)])
   have HBU := Lib.hid built_tn0
   go_upto_region 4 with (go_at_call 118; refine HIN4.out.mono ?_; rintro r w5 ⟨rfl, rfl⟩)
   go_wp2_with (first
    | (refine wpList_build_is rfl 64 _ rfl (tnC zeroT (.slice none 0 0)) ?_ ?_; focus (first | (simp only [List.map_toArray, List.map_nil]; exact HBU.out) | (simp only [Array.map_empty]; exact HBU.out) | (simp; exact HBU.out)))
    | (refine wpList_store_row rfl 64 _ _ rfl g1 (tnC zeroT (.slice none 0 0)) rfl rfl 64 _ HZ4.out (tnC_sizeOf zeroT _ rfl) rfl (tnC_one _ _ _ _) ?_; generalize hw6 : World.setRow _ _ _ = w6))
   have HM6 : Tn w6 g1 zeroT (.slice none 0 0) := by rw [← hw6]; exact Mx.row HZ4.out
   refine bodyPost_ret (HM6.res2 rfl rfl _ rfl) rfl ?_
   refine ⟨_, by rw [HRC.out]; rfl, ?_, by rw [← hw6]; exact below_setRow8 HB4.out _ _ (by have := HLT3.out; omega)⟩
   rw [HRC.out]
   exact Gw.nil _ _ _
end Go.Proofs.YtpfbfhigelbfcaaGreat

