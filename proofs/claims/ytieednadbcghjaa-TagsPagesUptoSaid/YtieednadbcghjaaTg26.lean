/- Layer 21: what is claimed of a table of names and of a nil table. -/
import Derived.Test.YtieednadbcghjaaTg8
import Derived.Test.YtieednadbcghjaaTg12
import Derived.Test.YtieednadbcghjaaTg16
import Derived.Test.YtieednadbcghjaaTg17
import Derived.Test.YtieednadbcghjaaTg20
import Derived.Test.YtieednadbcghjaaTg21
import Derived.Test.YtieednadbcghjaaTg23
import Derived.Test.YtieednadbcghjaaTg25
set_option linter.unusedSimpArgs false
set_option linter.unusedVariables false
namespace Go.Proofs.Ytieednadbcghjaa
set_option linter.unusedVariables false
open Go.RowKit Go.Lib

theorem below_drewNI {B : Nat} {a w : World} (h : Below B a w) (q : Nat) : Below B a (w.drewN q) := ⟨h.os, h.tape, h.output, h.size, h.block⟩
theorem seaI_at (B n c K : Nat) (bb : Bool) (p : Option Addr) (L : List Int) (x : Int) (w : World) (h : Gw encI w B (.slice p n c) L) (hs : irises L) (hn : n ≤ 2097200) (hb : decide (x ∈ L) = bb) (hk : L.countP (· < x) = K) :
    Calls Try.prog 51 #[.slice p n c, .int .i64 x] w fun e w' => e = .returned (.tuple #[.int .i64 (K : Int), .bool bb]) ∧ Below w.heap.size w w' := by
  refine (seaI_any B n c p L x w h (hs.imp fun h => by omega) hn).mono ?_
  rintro e w' ⟨rfl, q, rfl⟩
  exact ⟨by rw [hb, hk], below_drewNI (Below.refl _ _) q⟩
set_option maxRecDepth 100000 in
set_option maxHeartbeats 1000000 in
theorem with_any (p : Option Addr) (n c : Nat) (L : List Int) (s : Int) (w : World) (h : Gs encI w p n L) (hpc : p = none → c = 0) (hnc : n ≤ c) (hn : n ≤ 2097152) :
    Calls Try.prog 39 #[.slice p n c, .int .i64 s] w fun e w' => ∃ v, e = .returned v ∧ Gw encI w' w.heap.size v (putI (rowI L) s) ∧ Below w.heap.size w w' := by
  have HA := Lib.hid (asc_any p n c L w h hpc hnc (by omega))
  have HRL : Hid ((rowI L).length ≤ 2097200) := Lib.hid (by have h1 := rowI_length L; have h2 := h.1; omega)
  have HRR := Lib.hid (rowI_rises L)
  obtain ⟨R, hR⟩ : ∃ R, rowI L = R := ⟨_, rfl⟩
  rw [hR] at HA HRL HRR ⊢
  obtain ⟨K, hK⟩ : ∃ K, R.countP (· < s) = K := ⟨_, rfl⟩
  have HK := Lib.hid hK
  have HKL : Hid (K ≤ R.length) := Lib.hid (by rw [← hK]; exact List.countP_le_length)
  clear h hpc hnc hn hR hK
  by_cases hs : s ∈ R
  · have HP : Hid (putI R s = R) := Lib.hid (putI_has HRR.out hs)
    have HD : Hid (decide (s ∈ R) = true) := Lib.hid (decide_eq_true hs)
    rw [HP.out]
    clear hs
    go_enter Try.func39, Try.ntmps39
    go_wp2_with (first
      | (go_at_call 40; refine HA.out.mono ?_; rintro e w1 ⟨v1, rfl, hg1, hb1⟩; obtain ⟨p1, c1, hv1, _⟩ := hg1.open; obtain ⟨n1, hn1⟩ : ∃ n, R.length = n := ⟨_, rfl⟩; rw [hn1] at hv1; subst hv1; have HN1 := Lib.hid hn1; have HG1 := Lib.hid hg1; have HB1 := Lib.hid hb1; have HNN : Hid (n1 ≤ 2097200) := Lib.hid (by rw [← hn1]; exact HRL.out); clear hg1 hb1 hn1)
      | (go_at_call 51; refine (seaI_at w.heap.size n1 c1 K true p1 R s w1 HG1.out HRR.out HNN.out HD.out HK.out).mono ?_; rintro e w2 ⟨rfl, hb2⟩; have HG2 := Lib.hid (HG1.out.later hb2); have HB2 := Lib.hid (below_step HB1.out hb2); clear hb2))
    go_ret
    exact ⟨_, rfl, HG2.out, HB2.out⟩
  · have HP : Hid (R.take K ++ [s] ++ R.drop K = putI R s) := Lib.hid (by have h1 := ins_at s R HRR.out hs; rw [HK.out] at h1; exact h1)
    have HD : Hid (decide (s ∈ R) = false) := Lib.hid (decide_eq_false hs)
    clear hs
    go_enter Try.func39, Try.ntmps39
    go_wp2_with (first
      | (go_at_call 40; refine HA.out.mono ?_; rintro e w1 ⟨v1, rfl, hg1, hb1⟩; obtain ⟨p1, c1, hv1, _⟩ := hg1.open; obtain ⟨n1, hn1⟩ : ∃ n, R.length = n := ⟨_, rfl⟩; rw [hn1] at hv1; subst hv1; have HN1 := Lib.hid hn1; have HG1 := Lib.hid hg1; have HB1 := Lib.hid hb1; have HNN : Hid (n1 ≤ 2097200) := Lib.hid (by rw [← hn1]; exact HRL.out); clear hg1 hb1 hn1)
      | (go_at_call 51
         refine (seaI_at w.heap.size n1 c1 K false p1 R s w1 HG1.out HRR.out HNN.out HD.out HK.out).mono ?_
         rintro e w2 ⟨rfl, hb2⟩
         obtain ⟨w3, hw3⟩ : ∃ W, w2.alloc (.cells #[.int .i64 s] 3) = W := ⟨_, rfl⟩
         obtain ⟨G, hG⟩ : ∃ G, w2.heap.size = G := ⟨_, rfl⟩
         have HB2 := Lib.hid (below_step HB1.out hb2)
         have HB3 : Hid (Below w.heap.size w w3) := Lib.hid (by rw [← hw3]; exact HB2.out.alloc HB2.out.size _)
         have HG3 : Hid (Gw encI w3 w.heap.size (.slice p1 n1 c1) R) := Lib.hid (by rw [← hw3]; exact (HG1.out.later hb2).alloc _)
         have HV3 : Hid (w3.heap[G]? = some (.cells #[.int .i64 s] 3 (0, 0))) := Lib.hid (by rw [← hw3, ← hG]; exact heap_alloc_new _ _)
         have HNE : Hid (p1 ≠ some ⟨G, 0, none⟩) := Lib.hid (fun e => by
           subst e
           obtain ⟨_, _, _, _, cur, hg, _⟩ := (HG1.out.later hb2).block
           have := (Array.getElem?_eq_some_iff.1 hg).1
           omega)
         have HKN : Hid (K ≤ n1) := Lib.hid (by rw [← HN1.out]; exact HKL.out)
         clear hb2)
      | (go_at_call 52; refine (insI_any w.heap.size n1 c1 K G p1 R s w3 HG3.out HB3.out.size HV3.out HNE.out HKN.out HNN.out).mono ?_; rintro e w4 ⟨v4, rfl, hg4, hb4⟩; rw [HP.out] at hg4; have HG4 := Lib.hid hg4; have HB4 := Lib.hid (HB3.out.trans hb4); clear hg4 hb4))
    go_ret
    exact ⟨_, rfl, HG4.out, HB4.out⟩
theorem filter_stepI {L R : List Int} {k : Nat} (h : k < L.length) : (L.take (k + 1)).filter (fun x => decide (x ∈ R)) = (L.take k).filter (fun x => decide (x ∈ R)) ++ if L.getD k 0 ∈ R then [L.getD k 0] else [] := by
  rw [List.take_succ_eq_append_getElem h, List.filter_append, List.getD_eq_getElem?_getD, List.getElem?_eq_getElem h]
  simp only [Option.getD_some]
  by_cases hx : L[k] ∈ R
  · rw [if_pos hx, List.filter_cons_of_pos (by simpa using hx)]
    rfl
  · rw [if_neg hx, List.filter_cons_of_neg (by simpa using hx)]
    rfl
set_option maxRecDepth 100000 in
set_option maxHeartbeats 2000000 in
theorem pboth_any (p : Option Addr) (n c : Nat) (L : List Int) (p2 : Option Addr) (m c2 : Nat) (M : List Int) (w : World) (h : Gs encI w p n L) (hpc : p = none → c = 0) (hnc : n ≤ c) (h2 : Gs encI w p2 m M) (hn : n ≤ 2097152) (hm : m ≤ 2097152) :
    Calls Try.prog 43 #[.slice p n c, .slice p2 m c2] w fun e w' => ∃ v, e = .returned v ∧ Gw encI w' w.heap.size v (bothI L M) ∧ Below w.heap.size w w' := by
  have HA := Lib.hid (asc_any p n c L w h hpc hnc (by omega))
  have HRL : Hid ((rowI L).length ≤ 2097200) := Lib.hid (by have h1 := rowI_length L; have h2 := h.1; omega)
  have HRR := Lib.hid (rowI_rises L)
  have HM := Lib.hid h2
  have HMR : Hid (∀ x, x ∈ rowI L ↔ x ∈ L) := Lib.hid fun x => mem_rowI
  obtain ⟨R, hR⟩ : ∃ R, rowI L = R := ⟨_, rfl⟩
  rw [hR] at HA HRL HRR HMR
  clear h hpc hnc hn hR h2
  go_enter Try.func43, Try.ntmps43
  go_wp2_with (go_at_call 40; refine HA.out.mono ?_; rintro e w1 ⟨v1, rfl, hg1, hb1⟩; obtain ⟨p1, c1, hv1, _⟩ := hg1.open; obtain ⟨n1, hn1⟩ : ∃ n, R.length = n := ⟨_, rfl⟩; rw [hn1] at hv1; subst hv1; have HG1 := Lib.hid hg1; have HB1 := Lib.hid hb1; have HNN : Hid (n1 ≤ 2097200) := Lib.hid (by rw [← hn1]; exact HRL.out); clear hg1 hb1 hn1)
  go_loopw [6, 15] (fun v i wr => ∃ (k : Nat) (o : List Int), k ≤ m ∧ i = .int .i64 (k : Int) ∧ Hid (o = (M.take k).filter (fun x => decide (x ∈ R))) ∧ Hid (Gw encI wr w1.heap.size v o) ∧ Hid (Below w1.heap.size w1 wr)) (fun _ i _ => m - (intOf i).toNat)
  case atStart => exact ⟨0, [], by omega, rfl, Lib.hid rfl, Lib.hid (Gw.nil _ _ _), Lib.hid (Below.refl _ _)⟩
  case round =>
    obtain ⟨k, o, hk, rfl, HO, HG, HB⟩ := hrel
    have HOL : Hid (o.length ≤ k) := Lib.hid (by
      rw [HO.out]
      refine Nat.le_trans (List.length_filter_le _ _) ?_
      rw [List.length_take]
      exact Nat.min_le_left _ _)
    by_cases hlt : k < m
    · obtain ⟨b, off, rfl, c0⟩ := (HM.out.later (below_step HB1.out HB.out)).it k hlt
      have hkn : (k : Int) < (m : Int) := by omega
      have hk0 : (0 : Int) ≤ (k : Int) := by omega
      have HT := Lib.hid (filter_stepI (L := M) (R := R) (k := k) (by rw [HM.out.1]; exact hlt))
      generalize M.getD k 0 = y at *
      have HGR := Lib.hid (HG1.out.later HB.out)
      by_cases hy : y ∈ R
      · have HD : Hid (decide (y ∈ R) = true) := Lib.hid (decide_eq_true hy)
        have HO2 : Hid (o ++ [y] = (M.take (k + 1)).filter (fun x => decide (x ∈ R))) := Lib.hid (by rw [HT.out, if_pos hy, ← HO.out])
        have HZ1 : Hid (o.length + 1 ≤ 2097216) := Lib.hid (by have := HOL.out; omega)
        clear hy
        go_wp2_with (first
          | (go_at_call 51
             refine (seaI_at w.heap.size n1 c1 _ true p1 R y wr HGR.out HRR.out HNN.out HD.out rfl).mono ?_
             rintro e w2 ⟨rfl, hb2⟩
             obtain ⟨w3, hw3⟩ : ∃ W, w2.alloc (.cells #[.int .i64 y] 3) = W := ⟨_, rfl⟩
             obtain ⟨G, hG⟩ : ∃ G, w2.heap.size = G := ⟨_, rfl⟩
             have HB2 := Lib.hid (below_step HB.out hb2)
             have HB3 : Hid (Below w1.heap.size w1 w3) := Lib.hid (by rw [← hw3]; exact HB2.out.alloc HB2.out.size _)
             have HG3 := Lib.hid ((HG.out.later hb2).alloc (.cells #[.int .i64 y] 3))
             rw [hw3] at HG3
             have HN3 : Hid (Gs encI w3 (some ⟨G, 0, none⟩) 1 [y]) := Lib.hid (by rw [← hw3, ← hG]; exact Gs.one encI _ y #[.int .i64 y] rfl 3 (0, 0))
             clear hb2)
          | (refine wpList_append_gen encI rfl (.tmp 26) (.tmp 28) 34 rfl Try.underlying34 (.int .i64 0) 8 infoI rfl (by decide) w1.heap.size _ _ rfl HG3.out _ 1 1 [y] rfl HN3.out (fun h => by cases h) HZ1.out HB3.out.size ?_; intro v4 w4 ho4 hg4; have HG4 := Lib.hid ho4; have HB4 : Hid (Below w1.heap.size w1 w4) := Lib.hid (below_new_gw HB3.out HG3.out hg4 HB3.out.size); clear ho4 hg4))
        refine ⟨?_, by simp [intOf] <;> omega⟩
        first
          | exact ⟨k + 1, _, by omega, by go_num, HO2, HG4, HB4⟩
          | ((repeat apply Exists.intro); refine ⟨?_, rfl⟩; exact ⟨k + 1, _, by omega, by go_num, HO2, HG4, HB4⟩)
      · have HD : Hid (decide (y ∈ R) = false) := Lib.hid (decide_eq_false hy)
        have HO2 : Hid (o = (M.take (k + 1)).filter (fun x => decide (x ∈ R))) := Lib.hid (by rw [HT.out, if_neg hy, ← HO.out, List.append_nil])
        clear hy
        go_wp2_with (go_at_call 51; refine (seaI_at w.heap.size n1 c1 _ false p1 R y wr HGR.out HRR.out HNN.out HD.out rfl).mono ?_; rintro e w2 ⟨rfl, hb2⟩; have HB2 := Lib.hid (below_step HB.out hb2); have HG2 := Lib.hid (HG.out.later hb2); clear hb2)
        refine ⟨?_, by simp [intOf] <;> omega⟩
        first
          | exact ⟨k + 1, _, by omega, by go_num, HO2, HG2, HB2⟩
          | ((repeat apply Exists.intro); refine ⟨?_, rfl⟩; exact ⟨k + 1, _, by omega, by go_num, HO2, HG2, HB2⟩)
    · obtain rfl : k = m := by omega
      have HE : Hid (o = M.filter (fun x => decide (x ∈ R))) := Lib.hid (by have h1 := HO.out; rwa [List.take_of_length_le (by rw [HM.out.1]; exact Nat.le_refl _)] at h1)
      have HE2 : Hid (rowI o = bothI L M) := Lib.hid (irises_ext (rowI_rises _) (bothI_rises _ _) fun x => by
        rw [mem_rowI, mem_bothI, HE.out, List.mem_filter, decide_eq_true_eq, HMR.out]
        exact And.comm)
      obtain ⟨p3, c3, hv3, hlc, _, hgs3, hpn⟩ := HG.out.open
      subst hv3
      have HC := Lib.hid (asc_any p3 o.length c3 o wr hgs3 hpn hlc (by have := HOL.out; omega))
      clear hlc hgs3 hpn
      go_wp2_with (go_at_call 40; refine HC.out.mono ?_; rintro e w5 ⟨v5, rfl, hg5, hb5⟩; rw [HE2.out] at hg5; have HG5 := Lib.hid hg5; have HB5 := Lib.hid hb5; clear hg5 hb5)
      go_ret
      have hB := below_step HB1.out HB.out
      exact ⟨_, rfl, HG5.out.mono hB.size, below_step hB HB5.out⟩
end Go.Proofs.Ytieednadbcghjaa

namespace Go.Proofs.Ytieednadbcghjaa
set_option linter.unusedVariables false
open Go.RowKit Go.Lib

set_option maxRecDepth 100000 in
set_option maxHeartbeats 4000000 in
theorem ptag_any (e : Pt) (s : Value) (x : Wq) (w : World) (h : Is w s e.ins) (hd : dok e.dg) (hx : dok x.dg) (hn : e.ins.length ≤ 2097152) :
    Calls Try.prog 27 #[tnV e s, x.v] w fun r w' => TnG w (tagT e x) r w' := by
  obtain ⟨w0, w1, w2, g1, g2, h0, h1, h2, hg1, hg2, hB⟩ := box3 w (tnC e s) (mixC x.a x.dg x.t) (tnC zeroT (.slice none 0 0)) 42 33 42
  have HE : Hid (Tn w2 w.heap.size e s) := Lib.hid hB.a
  have HX : Hid (Wm w2 g1 x) := Lib.hid hB.b
  have HZ : Hid (Tn w2 g2 zeroT (.slice none 0 0)) := Lib.hid hB.z
  have HB := Lib.hid hB.le
  have HLT := Lib.hid hB.lt
  have HS := Lib.hid (h.later hB.le)
  obtain ⟨p, c, rfl, hs, hpc, hnc, _⟩ := h.later hB.le
  have HRO := Lib.hid fun W (hW : Below w2.heap.size w2 W) => with_any p e.ins.length c e.ins x.seg W (hs.later hW) hpc hnc hn
  have HD := Lib.hid hd
  have HXD := Lib.hid hx
  have HN := Lib.hid hn
  have HLX := Lib.hid fun W (hW : Below w2.heap.size w2 W) => (HX.out.later hW).dig hx.1
  have HLC := Lib.hid fun W (hW : Below w2.heap.size w2 W) => (HX.out.later hW).loc hx.1
  obtain ⟨m, hm⟩ : ∃ m, e.ins.length = m := ⟨_, rfl⟩
  rw [hm] at HRO
  have HML := Lib.hid hm
  obtain ⟨e0, e1, e2, cs⟩ := HE.out.cells hd.1
  obtain ⟨x0, x1, x2, x3⟩ := HX.out.cells5 hx.1
  rw [hm] at cs
  have HSC := Lib.hid (show (fun W : World => W.cell? ⟨g1, 34, none⟩ = some (.string x.nm) ∧ W.cell? ⟨g1, 36, none⟩ = some (.int .i64 x.seg) ∧ W.cell? ⟨w.heap.size, 37, none⟩ = some (.slice p m c) ∧ Below w2.heap.size w2 W) w2 from ⟨x1, x3, cs, Below.refl _ _⟩)
  rw [tnZero] at h2
  unfold tnV Wq.v
  generalize hMC : tnC e (Value.slice p e.ins.length c) = MC at *
  generalize hMX : mixC x.a x.dg x.t = MX at *
  rw [hm] at hMC
  clear hMC hMX hs hpc hnc hd hx hn hB hm cs e0 e1 e2 x0 x1 x2 x3
  go_enter Try.func27, Try.ntmps27
  go_upto_region 1 with fail
  refine wp_region_x (fun W : World => W.cell? ⟨g1, 34, none⟩ = some (.string x.nm) ∧ W.cell? ⟨g1, 36, none⟩ = some (.int .i64 x.seg) ∧ W.cell? ⟨w.heap.size, 37, none⟩ = some (.slice p m c) ∧ Below w2.heap.size w2 W) 13 (by kernel_rfl) ?_
  have hHeld : (fun W : World => W.cell? ⟨g1, 34, none⟩ = some (.string x.nm) ∧ W.cell? ⟨g1, 36, none⟩ = some (.int .i64 x.seg) ∧ W.cell? ⟨w.heap.size, 37, none⟩ = some (.slice p m c) ∧ Below w2.heap.size w2 W) _ := (show (fun W : World => W.cell? ⟨g1, 34, none⟩ = some (.string x.nm) ∧ W.cell? ⟨g1, 36, none⟩ = some (.int .i64 x.seg) ∧ W.cell? ⟨w.heap.size, 37, none⟩ = some (.slice p m c) ∧ Below w2.heap.size w2 W) (World.drew w2) from ⟨HSC.out.1, HSC.out.2.1, HSC.out.2.2.1, (Below.refl _ _).drew⟩)
  refine takex 0 (v := ?vv26) rfl (by kernel_rfl) (by kernel_rfl) (by kernel_rfl) (by kernel_rfl) (by kernel_rfl) (fun _ _ _ h => h) (Or.inl ⟨by rfl, ?hy26⟩) hHeld ?rest26
  case hy26 => intro w hSw; (try dsimp only at hSw); go_simp; (try with_reducible rfl)
  (try simp only [Act.put, List.setIfInBounds_toArray, List.set_cons_zero, List.set_cons_succ])
  refine takex 1 (v := ?vv27) rfl (by kernel_rfl) (by kernel_rfl) (by kernel_rfl) (by kernel_rfl) (by kernel_rfl) (fun _ _ _ h => h) (Or.inl ⟨by rfl, ?hy27⟩) hHeld ?rest27
  case hy27 => intro w hSw; (try dsimp only at hSw); go_simp; (try with_reducible rfl)
  (try simp only [Act.put, List.setIfInBounds_toArray, List.set_cons_zero, List.set_cons_succ])
  refine takex 2 (v := ?vv28) rfl (by kernel_rfl) (by kernel_rfl) (by kernel_rfl) (by kernel_rfl) (by kernel_rfl) (fun _ _ _ h => h) (Or.inl ⟨by rfl, ?hy28⟩) hHeld ?rest28
  case hy28 => intro w hSw; (try dsimp only at hSw); go_simp; (try with_reducible rfl)
  (try simp only [Act.put, List.setIfInBounds_toArray, List.set_cons_zero, List.set_cons_succ])
  refine takex 3 rfl (by kernel_rfl) (by kernel_rfl) (by kernel_rfl) (by kernel_rfl) (by kernel_rfl) (fun _ _ _ h => h) (yieldsIf_ld (by rfl) 29 (.tmp 7) rfl (.pointer (some ⟨g1, 2, none⟩)) rfl (.agg (bcs x.dg)) (fun W hW => HLX.out W (hW.2.2.2))) hHeld ?_
  (try simp only [Act.put, List.setIfInBounds_toArray, List.set_cons_zero, List.set_cons_succ])
  refine takex 4 (v := ?vv30) rfl (by kernel_rfl) (by kernel_rfl) (by kernel_rfl) (by kernel_rfl) (by kernel_rfl) (fun _ _ _ h => h) (Or.inl ⟨by rfl, ?hy30⟩) hHeld ?rest30
  case hy30 => intro w hSw; (try dsimp only at hSw); go_simp; (try with_reducible rfl)
  (try simp only [Act.put, List.setIfInBounds_toArray, List.set_cons_zero, List.set_cons_succ])
  refine takex 5 rfl (by kernel_rfl) (by kernel_rfl) (by kernel_rfl) (by kernel_rfl) (by kernel_rfl) (fun _ _ _ h => h) (yieldsIf_ld (by rfl) 31 (.tmp 9) rfl (.pointer (some ⟨g1, 36, none⟩)) rfl (.agg (lcA x.seg x.off x.len)) (fun W hW => HLC.out W (hW.2.2.2))) hHeld ?_
  (try simp only [Act.put, List.setIfInBounds_toArray, List.set_cons_zero, List.set_cons_succ])
  refine takex 6 (v := ?vv32) rfl (by kernel_rfl) (by kernel_rfl) (by kernel_rfl) (by kernel_rfl) (by kernel_rfl) (fun _ _ _ h => h) (Or.inl ⟨by rfl, ?hy32⟩) hHeld ?rest32
  case hy32 => intro w hSw; (try dsimp only at hSw); go_simp; (try with_reducible rfl)
  (try simp only [Act.put, List.setIfInBounds_toArray, List.set_cons_zero, List.set_cons_succ])
  refine takex 7 (v := ?vv33) rfl (by kernel_rfl) (by kernel_rfl) (by kernel_rfl) (by kernel_rfl) (by kernel_rfl) (fun _ _ _ h => h) (Or.inl ⟨by rfl, ?hy33⟩) hHeld ?rest33
  case hy33 => intro w hSw; (try dsimp only at hSw); go_simp; (try with_reducible rfl)
  (try simp only [Act.put, List.setIfInBounds_toArray, List.set_cons_zero, List.set_cons_succ])
  refine takex 8 (v := ?vv34) rfl (by kernel_rfl) (by kernel_rfl) (by kernel_rfl) (by kernel_rfl) (by kernel_rfl) (fun _ _ _ h => h) (Or.inl ⟨by rfl, ?hy34⟩) hHeld ?rest34
  case hy34 => intro w hSw; (try dsimp only at hSw); go_simp; (try with_reducible rfl)
  (try simp only [Act.put, List.setIfInBounds_toArray, List.set_cons_zero, List.set_cons_succ])
  refine takex 9 (v := ?vv35) rfl (by kernel_rfl) (by kernel_rfl) (by kernel_rfl) (by kernel_rfl) (by kernel_rfl) (fun _ _ _ h => h) (Or.inl ⟨by rfl, ?hy35⟩) hHeld ?rest35
  case hy35 => intro w hSw; (try dsimp only at hSw); go_simp; (try with_reducible rfl)
  (try simp only [Act.put, List.setIfInBounds_toArray, List.set_cons_zero, List.set_cons_succ])
  refine takex 10 (v := ?vv36) rfl (by kernel_rfl) (by kernel_rfl) (by kernel_rfl) (by kernel_rfl) (by kernel_rfl) (fun _ _ _ h => h) (Or.inl ⟨by rfl, ?hy36⟩) hHeld ?rest36
  case hy36 => intro w hSw; (try dsimp only at hSw); go_simp; (try with_reducible rfl)
  (try simp only [Act.put, List.setIfInBounds_toArray, List.set_cons_zero, List.set_cons_succ])
  refine readyx 11 rfl (by kernel_rfl) (fun K hK => ?_)
  go_simp
  refine (HRO.out _ (hHeld.2.2.2)).mono ?_
  rintro r w5 ⟨v5, rfl, ho5, hb5⟩
  have hb25 := below_step (hHeld.2.2.2) hb5
  obtain ⟨q, d, hv5, _⟩ := ho5.open
  obtain ⟨n, hnn⟩ : ∃ n, (putI (rowI e.ins) x.seg).length = n := ⟨_, rfl⟩
  rw [hnn] at hv5
  subst hv5
  have HO5 := Lib.hid ho5
  obtain ⟨y0, y1, y2, y3⟩ := (HE.out.later hb25).cells HD.out.1
  obtain ⟨z0, z1, z2, z3⟩ := (HX.out.later hb25).cells5 HXD.out.1
  rw [show e.ins.length = m from HML.out] at y3
  have k_x1 := z1
  have k_x3 := z3
  have k_cs := y3
  clear y0 y1 y2 z0 z1 z2 z3
  clear hb5 ho5
  have HBL5 : Hid (g2 < _) := Lib.hid (Nat.lt_of_lt_of_le HZ.out.lt (Below.size hHeld.2.2.2))
  first
    | refine hK.out _ _ ?hS37 ?rest37
    | (go_wp2_with fail; refine hK.out _ _ ?hS37 ?rest37)
  case hS37 => exact ⟨k_x1, k_x3, k_cs, hb25⟩
  clear hK K hHeld
  have hHeld : (fun W : World => W.cell? ⟨g1, 34, none⟩ = some (.string x.nm) ∧ W.cell? ⟨g1, 36, none⟩ = some (.int .i64 x.seg) ∧ W.cell? ⟨w.heap.size, 37, none⟩ = some (.slice p m c) ∧ Below w2.heap.size w2 W) _ := ⟨k_x1, k_x3, k_cs, hb25⟩
  (try simp only [Act.put, List.setIfInBounds_toArray, List.set_cons_zero, List.set_cons_succ])
  refine takex 12 rfl (by kernel_rfl) (by kernel_rfl) (by kernel_rfl) (by kernel_rfl) (by kernel_rfl) (fun _ _ _ h => h) (yieldsIf_build (by rfl) 42 #[(0, .tmp 6), (1, .tmp 8), (3, .tmp 10), (4, .tmp 16)] rfl (tnC (tagT e x) (.slice q n d)) (by first | exact (built_tn4 x.nm x.seg x.off x.len (putI (rowI e.ins) x.seg) q n d x.dg HXD.out.1) | (simp only [List.map_toArray, List.map_cons, List.map_nil]; exact (built_tn4 x.nm x.seg x.off x.len (putI (rowI e.ins) x.seg) q n d x.dg HXD.out.1)))) hHeld ?_
  (try simp only [Act.put, List.setIfInBounds_toArray, List.set_cons_zero, List.set_cons_succ])
  refine lastx 13 rfl (by kernel_rfl) (by kernel_rfl) (fun K hK => ?_)
  rw [if_pos (by rfl)]
  have HZ5 := Lib.hid (HZ.out.later hb25)
  have HIS : Hid (Is w5 (.slice q n d) (putI (rowI e.ins) x.seg)) := Lib.hid (by have h := HO5.out.is; exact h)
  have hlz : g2 < w5.heap.size := HZ5.out.lt
  have hgl : w.heap.size ≤ g2 := by have := HLT.out; omega
  have HMZ : Hid (Tn (w5.setRow g2 (tnC (tagT e x) (.slice q n d))) g2 (tagT e x) (.slice q n d)) := Lib.hid (Mx.row HZ5.out)
  have HBZ : Hid (Below w.heap.size w (w5.setRow g2 (tnC (tagT e x) (.slice q n d)))) := Lib.hid (below_setRow8 (below_step HB.out hb25) _ _ hgl)
  have HIZ : Hid (Gw encI (w5.setRow g2 (tnC (tagT e x) (.slice q n d))) w.heap.size (.slice q n d) (putI (rowI e.ins) x.seg)) := Lib.hid ((Gw.isrow HO5.out HZ5.out HBL5.out).mono (by have h1 := HBL5.out; have h2 := HLT.out; omega))
  refine wp_store_row 42 _ _ rfl g2 (tnC (tagT e x) (.slice q n d)) rfl rfl 42 _ HZ5.out (tnC_sizeOf (tagT e x) _ HXD.out.1) ((tnC_size _ _ rfl).trans (tnC_size (tagT e x) _ HXD.out.1).symm) (tnC_one _ _ _ _) ?_
  generalize World.setRow _ _ _ = wZ at *
  first
    | refine hK.out _ _ ?_
    | (go_wp2_with fail; refine hK.out _ _ ?_)
  clear hK K hHeld
  go_wp2
  refine bodyPost_ret (HMZ.out.res1 HXD.out.1 rfl _ rfl) rfl ?_
  exact ⟨_, rfl, HIZ.out, HBZ.out⟩
set_option maxRecDepth 100000 in
set_option maxHeartbeats 4000000 in
theorem punt_any (e : Pt) (s : Value) (x : Wq) (w : World) (h : Is w s e.ins) (hd : dok e.dg) (hx : dok x.dg) (hn : e.ins.length ≤ 2097152) :
    Calls Try.prog 28 #[tnV e s, x.v] w fun r w' => TnG w (untT e x) r w' := by
  obtain ⟨w0, w1, w2, g1, g2, h0, h1, h2, hg1, hg2, hB⟩ := box3 w (tnC e s) (mixC x.a x.dg x.t) (tnC zeroT (.slice none 0 0)) 42 33 42
  have HE : Hid (Tn w2 w.heap.size e s) := Lib.hid hB.a
  have HX : Hid (Wm w2 g1 x) := Lib.hid hB.b
  have HZ : Hid (Tn w2 g2 zeroT (.slice none 0 0)) := Lib.hid hB.z
  have HB := Lib.hid hB.le
  have HLT := Lib.hid hB.lt
  have HS := Lib.hid (h.later hB.le)
  obtain ⟨p, c, rfl, hs, hpc, hnc, _⟩ := h.later hB.le
  have HRO := Lib.hid fun W (hW : Below w2.heap.size w2 W) => asc_any p e.ins.length c e.ins W (hs.later hW) hpc hnc (by omega)
  have HD := Lib.hid hd
  have HXD := Lib.hid hx
  have HN := Lib.hid hn
  have HLC := Lib.hid fun W (hW : Below w2.heap.size w2 W) => (HX.out.later hW).loc hx.1
  obtain ⟨m, hm⟩ : ∃ m, e.ins.length = m := ⟨_, rfl⟩
  rw [hm] at HRO
  have HML := Lib.hid hm
  obtain ⟨e0, e1, e2, cs⟩ := HE.out.cells hd.1
  obtain ⟨x0, x1, x2, x3⟩ := HX.out.cells5 hx.1
  rw [hm] at cs
  have HSC := Lib.hid (show (fun W : World => W.cell? ⟨w.heap.size, 0, none⟩ = some (.string e.nm) ∧ W.cell? ⟨w.heap.size, 37, none⟩ = some (.slice p m c) ∧ Below w2.heap.size w2 W) w2 from ⟨e0, cs, Below.refl _ _⟩)
  rw [tnZero] at h2
  unfold tnV Wq.v
  generalize hMC : tnC e (Value.slice p e.ins.length c) = MC at *
  generalize hMX : mixC x.a x.dg x.t = MX at *
  rw [hm] at hMC
  clear hMC hMX hs hpc hnc hd hx hn hB hm cs e0 e1 e2 x0 x1 x2 x3
  go_enter Try.func28, Try.ntmps28
  go_upto_region 1 with fail
  refine wp_region_x (fun W : World => W.cell? ⟨w.heap.size, 0, none⟩ = some (.string e.nm) ∧ W.cell? ⟨w.heap.size, 37, none⟩ = some (.slice p m c) ∧ Below w2.heap.size w2 W) 8 (by kernel_rfl) ?_
  have hHeld : (fun W : World => W.cell? ⟨w.heap.size, 0, none⟩ = some (.string e.nm) ∧ W.cell? ⟨w.heap.size, 37, none⟩ = some (.slice p m c) ∧ Below w2.heap.size w2 W) _ := (show (fun W : World => W.cell? ⟨w.heap.size, 0, none⟩ = some (.string e.nm) ∧ W.cell? ⟨w.heap.size, 37, none⟩ = some (.slice p m c) ∧ Below w2.heap.size w2 W) (World.drew w2) from ⟨HSC.out.1, HSC.out.2.1, (Below.refl _ _).drew⟩)
  refine takex 0 (v := ?vv40) rfl (by kernel_rfl) (by kernel_rfl) (by kernel_rfl) (by kernel_rfl) (by kernel_rfl) (fun _ _ _ h => h) (Or.inl ⟨by rfl, ?hy40⟩) hHeld ?rest40
  case hy40 => intro w hSw; (try dsimp only at hSw); go_simp; (try with_reducible rfl)
  (try simp only [Act.put, List.setIfInBounds_toArray, List.set_cons_zero, List.set_cons_succ])
  refine takex 1 (v := ?vv41) rfl (by kernel_rfl) (by kernel_rfl) (by kernel_rfl) (by kernel_rfl) (by kernel_rfl) (fun _ _ _ h => h) (Or.inl ⟨by rfl, ?hy41⟩) hHeld ?rest41
  case hy41 => intro w hSw; (try dsimp only at hSw); go_simp; (try with_reducible rfl)
  (try simp only [Act.put, List.setIfInBounds_toArray, List.set_cons_zero, List.set_cons_succ])
  refine takex 2 (v := ?vv42) rfl (by kernel_rfl) (by kernel_rfl) (by kernel_rfl) (by kernel_rfl) (by kernel_rfl) (fun _ _ _ h => h) (Or.inl ⟨by rfl, ?hy42⟩) hHeld ?rest42
  case hy42 => intro w hSw; (try dsimp only at hSw); go_simp; (try with_reducible rfl)
  (try simp only [Act.put, List.setIfInBounds_toArray, List.set_cons_zero, List.set_cons_succ])
  refine takex 3 rfl (by kernel_rfl) (by kernel_rfl) (by kernel_rfl) (by kernel_rfl) (by kernel_rfl) (fun _ _ _ h => h) (yieldsIf_ld (by rfl) 31 (.tmp 7) rfl (.pointer (some ⟨g1, 36, none⟩)) rfl (.agg (lcA x.seg x.off x.len)) (fun W hW => HLC.out W (hW.2.2))) hHeld ?_
  (try simp only [Act.put, List.setIfInBounds_toArray, List.set_cons_zero, List.set_cons_succ])
  refine takex 4 (v := ?vv44) rfl (by kernel_rfl) (by kernel_rfl) (by kernel_rfl) (by kernel_rfl) (by kernel_rfl) (fun _ _ _ h => h) (Or.inl ⟨by rfl, ?hy44⟩) hHeld ?rest44
  case hy44 => intro w hSw; (try dsimp only at hSw); go_simp; (try with_reducible rfl)
  (try simp only [Act.put, List.setIfInBounds_toArray, List.set_cons_zero, List.set_cons_succ])
  refine takex 5 (v := ?vv45) rfl (by kernel_rfl) (by kernel_rfl) (by kernel_rfl) (by kernel_rfl) (by kernel_rfl) (fun _ _ _ h => h) (Or.inl ⟨by rfl, ?hy45⟩) hHeld ?rest45
  case hy45 => intro w hSw; (try dsimp only at hSw); go_simp; (try with_reducible rfl)
  (try simp only [Act.put, List.setIfInBounds_toArray, List.set_cons_zero, List.set_cons_succ])
  refine readyx 6 rfl (by kernel_rfl) (fun K hK => ?_)
  go_simp
  refine (HRO.out _ (hHeld.2.2)).mono ?_
  rintro r w5 ⟨v5, rfl, ho5, hb5⟩
  have hb25 := below_step (hHeld.2.2) hb5
  obtain ⟨q, d, hv5, _⟩ := ho5.open
  obtain ⟨n, hnn⟩ : ∃ n, (rowI e.ins).length = n := ⟨_, rfl⟩
  rw [hnn] at hv5
  subst hv5
  have HO5 := Lib.hid ho5
  obtain ⟨y0, y1, y2, y3⟩ := (HE.out.later hb25).cells HD.out.1
  obtain ⟨z0, z1, z2, z3⟩ := (HX.out.later hb25).cells5 HXD.out.1
  rw [show e.ins.length = m from HML.out] at y3
  have k_e0 := y0
  have k_cs := y3
  clear y0 y1 y2 z0 z1 z2 z3
  clear hb5 ho5
  have HBL5 : Hid (g2 < _) := Lib.hid (Nat.lt_of_lt_of_le HZ.out.lt (Below.size hHeld.2.2))
  first
    | refine hK.out _ _ ?hS46 ?rest46
    | (go_wp2_with fail; refine hK.out _ _ ?hS46 ?rest46)
  case hS46 => exact ⟨k_e0, k_cs, hb25⟩
  clear hK K hHeld
  have hHeld : (fun W : World => W.cell? ⟨w.heap.size, 0, none⟩ = some (.string e.nm) ∧ W.cell? ⟨w.heap.size, 37, none⟩ = some (.slice p m c) ∧ Below w2.heap.size w2 W) _ := ⟨k_e0, k_cs, hb25⟩
  (try simp only [Act.put, List.setIfInBounds_toArray, List.set_cons_zero, List.set_cons_succ])
  refine takex 7 rfl (by kernel_rfl) (by kernel_rfl) (by kernel_rfl) (by kernel_rfl) (by kernel_rfl) (fun _ _ _ h => h) (yieldsIf_build (by rfl) 42 #[(0, .tmp 6), (2, .const (.bool true)), (3, .tmp 8), (4, .tmp 11)] rfl (tnC (untT e x) (.slice q n d)) (by first | exact (built_un4 e.nm x.seg x.off x.len (rowI e.ins) q n d) | (simp only [List.map_toArray, List.map_cons, List.map_nil]; exact (built_un4 e.nm x.seg x.off x.len (rowI e.ins) q n d)))) hHeld ?_
  (try simp only [Act.put, List.setIfInBounds_toArray, List.set_cons_zero, List.set_cons_succ])
  refine lastx 8 rfl (by kernel_rfl) (by kernel_rfl) (fun K hK => ?_)
  rw [if_pos (by rfl)]
  have HZ5 := Lib.hid (HZ.out.later hb25)
  have HIS : Hid (Is w5 (.slice q n d) (rowI e.ins)) := Lib.hid (by have h := HO5.out.is; exact h)
  have hlz : g2 < w5.heap.size := HZ5.out.lt
  have hgl : w.heap.size ≤ g2 := by have := HLT.out; omega
  have HMZ : Hid (Tn (w5.setRow g2 (tnC (untT e x) (.slice q n d))) g2 (untT e x) (.slice q n d)) := Lib.hid (Mx.row HZ5.out)
  have HBZ : Hid (Below w.heap.size w (w5.setRow g2 (tnC (untT e x) (.slice q n d)))) := Lib.hid (below_setRow8 (below_step HB.out hb25) _ _ hgl)
  have HIZ : Hid (Gw encI (w5.setRow g2 (tnC (untT e x) (.slice q n d))) w.heap.size (.slice q n d) (rowI e.ins)) := Lib.hid ((Gw.isrow HO5.out HZ5.out HBL5.out).mono (by have h1 := HBL5.out; have h2 := HLT.out; omega))
  refine wp_store_row 42 _ _ rfl g2 (tnC (untT e x) (.slice q n d)) rfl rfl 42 _ HZ5.out (tnC_sizeOf (untT e x) _ rfl) ((tnC_size _ _ rfl).trans (tnC_size (untT e x) _ rfl).symm) (tnC_one _ _ _ _) ?_
  generalize World.setRow _ _ _ = wZ at *
  first
    | refine hK.out _ _ ?_
    | (go_wp2_with fail; refine hK.out _ _ ?_)
  clear hK K hHeld
  go_wp2
  refine bodyPost_ret (HMZ.out.res1 rfl rfl _ rfl) rfl ?_
  exact ⟨_, rfl, HIZ.out, HBZ.out⟩
end Go.Proofs.Ytieednadbcghjaa

namespace Go.Proofs.Ytieednadbcghjaa
set_option linter.unusedVariables false
open Go.RowKit Go.Lib

set_option maxRecDepth 100000 in
set_option maxHeartbeats 1000000 in
theorem pkeept_any (e : Pt) (s : Value) (p2 : Option Addr) (m2 c2 : Nat) (B : List Int) (w : World) (h : Is w s e.ins) (hs2 : Gs encI w p2 m2 B) (hd : dok e.dg) (hn : e.ins.length ≤ 2097152) (hm2 : m2 ≤ 2097152) :
    Calls Try.prog 31 #[tnV e s, .slice p2 m2 c2] w fun r w' => KtG w (keepT e B) r w' := by
  obtain ⟨w0, w2, g1, h0, h2, hg1, hB⟩ := box2 w (tnC e s) (tnC zeroT (.slice none 0 0)) 42 42
  have HE : Hid (Tn w2 w.heap.size e s) := Lib.hid hB.a
  have HZ : Hid (Tn w2 g1 zeroT (.slice none 0 0)) := Lib.hid hB.z
  have HB := Lib.hid hB.le
  have HLT := Lib.hid hB.lt
  obtain ⟨p, c, rfl, hs, hpc, hnc, _⟩ := h.later hB.le
  have HBO := Lib.hid (pboth_any p e.ins.length c e.ins p2 m2 c2 B w2 hs hpc hnc (hs2.later hB.le) hn hm2)
  have HIN := Lib.hid fun W (hW : Below w.heap.size w W) => containsI_any p2 m2 c2 B e.seg W (hs2.later hW) hm2
  have HD := Lib.hid hd
  have HBL := Lib.hid (bothI_length e.ins B)
  obtain ⟨e0, e1, e2, cs⟩ := HE.out.cells hd.1
  obtain ⟨m, hm⟩ : ∃ m, e.ins.length = m := ⟨_, rfl⟩
  rw [hm] at HBO cs HBL
  have HR : Hid (keepT e B = _) := Lib.hid (by unfold keepT; rfl)
  obtain ⟨Y, hY⟩ : ∃ Y, bothI e.ins B = Y := ⟨_, rfl⟩
  rw [hY] at HBO HR HBL
  have hnil := len_nil (L := Y)
  have HNIL := Lib.hid hnil
  have hmm : m ≤ 2097152 := by omega
  rw [tnZero] at h2
  unfold tnV
  generalize hMC : tnC e (Value.slice p e.ins.length c) = MC at *
  rw [hm] at hMC
  clear hMC hs hpc hnc hs2 h hd hB hm hY hnil hn
  go_enter Try.func31, Try.ntmps31
  go_upto_region 2 with (go_at_call 43
                         refine HBO.out.mono ?_
                         rintro r w3 ⟨v, rfl, ho3, hb3⟩
                         have HO3 := Lib.hid ho3
                         have HB3 := Lib.hid hb3
                         obtain ⟨q, d, hv, _⟩ := ho3.open
                         obtain ⟨n, hnn⟩ : ∃ n, Y.length = n := ⟨_, rfl⟩
                         rw [hnn] at hv HNIL HBL
                         subst hv
                         have HE3 := Lib.hid (HE.out.later hb3)
                         have HZ3 := Lib.hid (HZ.out.later hb3)
                         have hnl : n ≤ 2097152 := by have := HBL.out; omega
                         have fs := (HE3.out.cells HD.out.1).2.2.2
                         have hfr := Mx.frozen HE3.out 37
                         have HLT3 : Hid (w.heap.size < g1 ∧ g1 < w3.heap.size ∧ w2.heap.size ≤ w3.heap.size ∧ g1 < w2.heap.size) := Lib.hid (by have h1 := HLT.out; have h2 := hb3.size; omega)
                         obtain ⟨w4, hw4⟩ : ∃ W, w3.setCell ⟨w.heap.size, 37, none⟩ (.slice q n d) = W := ⟨_, rfl⟩
                         have HE4 : Hid (Tn w4 w.heap.size { e with ins := Y } (.slice q n d)) := Lib.hid (by rw [← hw4]; exact Mx.setLast HE3.out HD.out.1 4 (.slice q n d))
                         have HZ4 : Hid (Tn w4 g1 zeroT (.slice none 0 0)) := Lib.hid (by rw [← hw4]; exact Mx.other HZ3.out _ _ (by have := HLT3.out; show g1 ≠ w.heap.size; omega))
                         have HK4 : Hid (∀ b, b ≠ w.heap.size → w4.heap[b]? = w3.heap[b]?) := Lib.hid fun b hb => by rw [← hw4]; exact heap_setCell_other w3 ⟨w.heap.size, 37, none⟩ b _ hb
                         have HB4 : Hid (Below w.heap.size w w4) := Lib.hid (by rw [← hw4]; exact (below_step HB.out HB3.out).setCell (Nat.le_refl _) _)
                         have HIN4 := Lib.hid (HIN.out w4 HB4.out)
                         clear ho3 hb3 hnn e0 e1 e2 cs)
  obtain ⟨f0, f1, f2, f3⟩ := HE4.out.cells HD.out.1
  dsimp only at f0 f1 f2 f3
  clear hw4 fs hfr
  by_cases hin : e.seg ∈ B
  · have hdi : decide (e.seg ∈ B) = true := by simpa using hin
    rw [hdi] at HIN4
    have HINB := Lib.hid hin
    clear hin hdi
    by_cases hy : (0 : Int) < (n : Int)
    · have hn0 : ((n : Int) == 0) = false := by simp; omega
      have HRA : Hid (keepT e B = ({ e with ins := Y }, true)) := Lib.hid (by rw [HR.out, if_pos ⟨HINB.out, Or.inr (fun h => by have := HNIL.out.1 h; omega)⟩])
      go_upto_region 7 with (go_at_call 44; refine HIN4.out.mono ?_; rintro r w5 ⟨rfl, rfl⟩)
      go_wp2_with (first
        | (refine wpList_ld rfl 42 _ rfl _ rfl _ (HE4.out.load HD.out.1) ?_)
        | (refine wpList_store_row rfl 42 _ _ rfl g1 (tnC { e with ins := Y } (.slice q n d)) rfl rfl 42 _ HZ4.out (tnC_sizeOf { e with ins := Y } _ HD.out.1) ((tnC_size _ _ rfl).trans (tnC_size { e with ins := Y } _ HD.out.1).symm) (tnC_one _ _ _ _) ?_; generalize hw6 : World.setRow _ _ _ = w6))
      have HM6 : Tn w6 g1 { e with ins := Y } (.slice q n d) := by rw [← hw6]; exact Mx.row HZ4.out
      refine bodyPost_ret (HM6.res2 HD.out.1 rfl _ rfl) rfl ?_
      refine ⟨_, by rw [HRA.out]; rfl, ?_, by rw [← hw6]; exact below_setRow8 HB4.out _ _ (by have := HLT3.out; omega)⟩
      rw [HRA.out]
      exact Gw.mono (B := w2.heap.size) (HO3.out.iskeep fun b hb => by rw [← hw6, setRow_other _ _ _ _ (by have := HLT3.out; omega)]; exact HK4.out b (by have := HLT3.out; omega)) (by have := HLT3.out; omega)
    · have hn0 : ((n : Int) == 0) = true := by simp; omega
      by_cases hk : e.gone = false
      · have HK := Lib.hid hk
        rw [hk] at f1
        have HRA : Hid (keepT e B = ({ e with ins := Y }, true)) := Lib.hid (by rw [HR.out, if_pos ⟨HINB.out, Or.inl HK.out⟩])
        clear hk
        go_upto_region 7 with (go_at_call 44; refine HIN4.out.mono ?_; rintro r w5 ⟨rfl, rfl⟩)
        go_wp2_with (first
          | (refine wpList_ld rfl 42 _ rfl _ rfl _ (HE4.out.load HD.out.1) ?_)
          | (refine wpList_store_row rfl 42 _ _ rfl g1 (tnC { e with ins := Y } (.slice q n d)) rfl rfl 42 _ HZ4.out (tnC_sizeOf { e with ins := Y } _ HD.out.1) ((tnC_size _ _ rfl).trans (tnC_size { e with ins := Y } _ HD.out.1).symm) (tnC_one _ _ _ _) ?_; generalize hw6 : World.setRow _ _ _ = w6))
        have HM6 : Tn w6 g1 { e with ins := Y } (.slice q n d) := by rw [← hw6]; exact Mx.row HZ4.out
        refine bodyPost_ret (HM6.res2 HD.out.1 rfl _ rfl) rfl ?_
        refine ⟨_, by rw [HRA.out]; rfl, ?_, by rw [← hw6]; exact below_setRow8 HB4.out _ _ (by have := HLT3.out; omega)⟩
        rw [HRA.out]
        exact Gw.mono (B := w2.heap.size) (HO3.out.iskeep fun b hb => by rw [← hw6, setRow_other _ _ _ _ (by have := HLT3.out; omega)]; exact HK4.out b (by have := HLT3.out; omega)) (by have := HLT3.out; omega)
      · have HK : Hid (¬ e.gone = false) := Lib.hid hk
        have hkt : e.gone = true := by simpa using hk
        rw [hkt] at f1
        have HY0 : Hid (Y = []) := Lib.hid (HNIL.out.2 (by omega))
        have HRC : Hid (keepT e B = (zeroT, false)) := Lib.hid (by rw [HR.out, if_neg (fun h => h.2.elim HK.out (fun h2 => h2 HY0.out)), if_neg (fun h => h HY0.out)])
        clear hk
        have HBU := Lib.hid built_tn0
        go_upto_region 4 with (go_at_call 44; refine HIN4.out.mono ?_; rintro r w5 ⟨rfl, rfl⟩)
        go_wp2_with (first
          | (refine wpList_build_is rfl 42 _ rfl (tnC zeroT (.slice none 0 0)) ?_ ?_; focus (first | (simp only [List.map_toArray, List.map_nil]; exact HBU.out) | (simp only [Array.map_empty]; exact HBU.out) | (simp; exact HBU.out)))
          | (refine wpList_store_row rfl 42 _ _ rfl g1 (tnC zeroT (.slice none 0 0)) rfl rfl 42 _ HZ4.out (tnC_sizeOf zeroT _ rfl) rfl (tnC_one _ _ _ _) ?_; generalize hw6 : World.setRow _ _ _ = w6))
        have HM6 : Tn w6 g1 zeroT (.slice none 0 0) := by rw [← hw6]; exact Mx.row HZ4.out
        refine bodyPost_ret (HM6.res2 rfl rfl _ rfl) rfl ?_
        refine ⟨_, by rw [HRC.out]; rfl, ?_, by rw [← hw6]; exact below_setRow8 HB4.out _ _ (by have := HLT3.out; omega)⟩
        rw [HRC.out]
        exact Gw.nil _ _ _
  · have hdi : decide (e.seg ∈ B) = false := by simpa using hin
    rw [hdi] at HIN4
    have HINB := Lib.hid hin
    clear hin hdi
    by_cases hy : (0 : Int) < (n : Int)
    · have hn0 : ((n : Int) == 0) = false := by simp; omega
      have HRB : Hid (keepT e B = (⟨e.nm, dz32, true, 0, 0, 0, Y⟩, true)) := Lib.hid (by rw [HR.out, if_neg (fun h => HINB.out h.1), if_pos (fun h => by have := HNIL.out.1 h; omega)])
      have HBU := Lib.hid (built_un3 e.nm Y q n d)
      have HLD := Lib.hid (HE4.out.dig HD.out.1)
      go_upto_region 6 with (go_at_call 44; refine HIN4.out.mono ?_; rintro r w5 ⟨rfl, rfl⟩)
      go_wp2_with (first
        | (refine wpList_ld rfl 29 _ rfl _ rfl _ HLD.out ?_)
        | (refine wpList_build_is rfl 42 _ rfl (tnC ⟨e.nm, dz32, true, 0, 0, 0, Y⟩ (.slice q n d)) ?_ ?_; focus (first | exact HBU.out | (simp only [List.map_toArray, List.map_cons, List.map_nil]; exact HBU.out)))
        | (refine wpList_store_row rfl 42 _ _ rfl g1 (tnC ⟨e.nm, dz32, true, 0, 0, 0, Y⟩ (.slice q n d)) rfl rfl 42 _ HZ4.out (tnC_sizeOf ⟨e.nm, dz32, true, 0, 0, 0, Y⟩ _ rfl) ((tnC_size _ _ rfl).trans (tnC_size ⟨e.nm, dz32, true, 0, 0, 0, Y⟩ _ rfl).symm) (tnC_one _ _ _ _) ?_; generalize hw6 : World.setRow _ _ _ = w6))
      have HM6 : Tn w6 g1 ⟨e.nm, dz32, true, 0, 0, 0, Y⟩ (.slice q n d) := by rw [← hw6]; exact Mx.row HZ4.out
      refine bodyPost_ret (HM6.res2 rfl rfl _ rfl) rfl ?_
      refine ⟨_, by rw [HRB.out]; rfl, ?_, by rw [← hw6]; exact below_setRow8 HB4.out _ _ (by have := HLT3.out; omega)⟩
      rw [HRB.out]
      exact Gw.mono (B := w2.heap.size) (HO3.out.iskeep fun b hb => by rw [← hw6, setRow_other _ _ _ _ (by have := HLT3.out; omega)]; exact HK4.out b (by have := HLT3.out; omega)) (by have := HLT3.out; omega)
    · have hn0 : ((n : Int) == 0) = true := by simp; omega
      have HY0 : Hid (Y = []) := Lib.hid (HNIL.out.2 (by omega))
      have HRC : Hid (keepT e B = (zeroT, false)) := Lib.hid (by rw [HR.out, if_neg (fun h => HINB.out h.1), if_neg (fun h => h HY0.out)])
      have HBU := Lib.hid built_tn0
      go_upto_region 4 with (go_at_call 44; refine HIN4.out.mono ?_; rintro r w5 ⟨rfl, rfl⟩)
      go_wp2_with (first
        | (refine wpList_build_is rfl 42 _ rfl (tnC zeroT (.slice none 0 0)) ?_ ?_; focus (first | (simp only [List.map_toArray, List.map_nil]; exact HBU.out) | (simp only [Array.map_empty]; exact HBU.out) | (simp; exact HBU.out)))
        | (refine wpList_store_row rfl 42 _ _ rfl g1 (tnC zeroT (.slice none 0 0)) rfl rfl 42 _ HZ4.out (tnC_sizeOf zeroT _ rfl) rfl (tnC_one _ _ _ _) ?_; generalize hw6 : World.setRow _ _ _ = w6))
      have HM6 : Tn w6 g1 zeroT (.slice none 0 0) := by rw [← hw6]; exact Mx.row HZ4.out
      refine bodyPost_ret (HM6.res2 rfl rfl _ rfl) rfl ?_
      refine ⟨_, by rw [HRC.out]; rfl, ?_, by rw [← hw6]; exact below_setRow8 HB4.out _ _ (by have := HLT3.out; omega)⟩
      rw [HRC.out]
      exact Gw.nil _ _ _
end Go.Proofs.Ytieednadbcghjaa

namespace Go.Proofs.Ytieednadbcghjaa
set_option linter.unusedVariables false
open Go.RowKit Go.Lib

/-- a table in the making -/
structure NwT (w W : World) (bT : Nat) (F : Nat → Prop) (v : Value) (L : List Pt) : Prop where
  tg : TgB W bT F v L
  i : w.heap.size ≤ bT
  s : ∀ b, v.ownBlock = some b → w.heap.size ≤ b
  f : ∀ b, F b → w.heap.size ≤ b
  le : Below w.heap.size w W
theorem NwT.op {w W V : World} {bT : Nat} {F : Nat → Prop} {v : Value} {L L' : List Pt} {e : Ending} (h : NwT w W bT F v L) (ho : OpT W bT F v L' e V) : e = .returned (.tuple #[]) ∧ ∃ v' F', NwT w V bT F' v' L' := by
  obtain ⟨v', F', h1, h2, h3, h4, h5⟩ := ho
  refine ⟨h1, v', F', h2, h.i, fun b hb => (h4 b hb).elim (h.s b) (Nat.le_trans h.le.size), fun b hb => (h5 b hb).elim (h.f b) (Nat.le_trans h.le.size), h.le.trans (h3.below (fun b hb => hb.elim (fun e => by rw [e]; exact h.i) (h.s b)) h.le.size)⟩
theorem NwT.later {w W V : World} {bT : Nat} {F : Nat → Prop} {v : Value} {L : List Pt} (h : NwT w W bT F v L) (hb : Below W.heap.size W V) : NwT w V bT F v L := ⟨h.tg.later hb, h.i, h.s, h.f, below_step h.le hb⟩
theorem nwt_start (w : World) : NwT w (w.alloc (.cells #[.slice none 0 0, .int .i64 0] 64)) w.heap.size (fun _ => False) (.slice none 0 0) [] :=
  ⟨⟨[], ⟨heap_alloc_new _ _, Gw.nil _ _ _, (fun k hk => by cases hk), (fun q hq => by cases hq), fun k hk => hk.elim, fun k hk => hk.elim⟩, rfl, List.Pairwise.nil⟩, Nat.le_refl _, (fun b hb => by cases hb), fun b hb => hb.elim, (Below.refl _ _).alloc (Nat.le_refl _) _⟩
theorem newT_take {L : List Pt} {k : Nat} {x : Pt} (h : L[k]? = some x) : newT (L.take (k + 1)) = setT (newT (L.take k)) x := by
  obtain ⟨h2, h3⟩ := List.getElem?_eq_some_iff.1 h
  rw [List.take_succ_eq_append_getElem h2, h3, newT_snoc]
set_option maxRecDepth 100000 in
set_option maxHeartbeats 4000000 in
theorem tnew_any {w : World} {N : Nat → Prop} {p : Option Addr} {n c : Nat} {Ls : List Tx} (h : ReT w N p n Ls) (hn : n ≤ 1048576) (hi : insLeT (ptL Ls) 2097200) :
    Calls Try.prog 6 #[.slice p n c] w fun e w' => ∃ bT F v, e = .returned (.pointer (some ⟨bT, 0, none⟩)) ∧ NwT w w' bT F v (newT (ptL Ls)) := by
  have HR := Lib.hid h
  have HLN : Hid ((ptL Ls).length = n) := Lib.hid (by rw [ptL_length, h.gs.len])
  have HIL := Lib.hid hi
  have HNI := Lib.hid (nwt_start w)
  clear h hi
  go_enter Try.func6, Try.ntmps6
  go_upto_region 2 with fail
  obtain ⟨bT, hbT⟩ : ∃ b, w.heap.size = b := ⟨_, rfl⟩
  have HBT := Lib.hid hbT
  rw [hbT] at HNI
  rw [hbT]
  generalize World.alloc _ _ = w2 at *
  clear hbT
  go_wp2
  go_loopw [10] (fun j wr => ∃ (k : Nat) (F : Nat → Prop) (v : Value), k ≤ n ∧ j = .int .i64 (k : Int) ∧ Hid (NwT w wr bT F v (newT ((ptL Ls).take k)))) (fun j _ => n - (intOf j).toNat)
  case atStart => exact ⟨0, _, _, by omega, rfl, HNI⟩
  case round =>
    obtain ⟨k, F1, v1, hkn, rfl, HI⟩ := hrel
    by_cases hlt : k < n
    · obtain ⟨b1, off, y, rfl, hy1, hy3, hr⟩ := (HR.out.later HI.out.le).gs.tn k hlt
      have HYD := Lib.hid (HR.out.dk y hy3)
      have HYS := Lib.hid ((HR.out.later HI.out.le).is y hy3)
      have HYN : Hid (y.e.ins.length ≤ 2097200) := Lib.hid (HIL.out y.e (List.mem_map.2 ⟨y, hy3, rfl⟩))
      have HT := Lib.hid (newT_take (ptL_get hy1))
      have HLL : Hid ((newT ((ptL Ls).take k)).length ≤ 1048576) := Lib.hid (by have h1 := newT_length ((ptL Ls).take k); rw [List.length_take] at h1; omega)
      have HLY := Lib.hid (tn_load hr)
      have hki : (k : Int) < (n : Int) := by omega
      have hk0 : (0 : Int) ≤ (k : Int) := by omega
      clear hr hy1 hy3
      go_upto_region 5 with (first
        | (refine wpList_ld rfl 42 _ rfl _ rfl _ HLY.out ?_)
        | (refine wpList_store_row rfl 42 _ _ rfl wr.heap.size (tnC y.e y.s) rfl rfl 42 _ (heap_alloc_new _ _) (tnC_sizeOf y.e _ y.hd) ((tnC_size zeroT _ rfl).trans (tnC_size y.e _ y.hd).symm) (tnC_one _ _ _ _) ?_; generalize hw3 : World.setRow _ _ _ = w3))
      obtain ⟨he3, hb3⟩ := tnC_lay rfl hw3
      obtain ⟨g3, hg3⟩ : ∃ g, wr.heap.size = g := ⟨_, rfl⟩
      rw [hg3] at he3
      rw [hg3]
      have HI3 := Lib.hid (HI.out.later hb3)
      have HL3 := Lib.hid (he3.load y.hd)
      have HSE := Lib.hid (setT_any y.e y.s HI3.out.tg (HYS.out.later hb3) HYD.out HYN.out HLL.out)
      rw [← HT.out] at HSE
      unfold tnV at HSE
      clear he3 hb3 hw3 hg3
      go_wp2_with (first
        | (refine wpList_ld rfl 42 _ rfl _ rfl _ HL3.out ?_)
        | (go_at_call 25; refine HSE.out.mono ?_; rintro r w4 hop; obtain ⟨hr4, v4, F4, hn4⟩ := HI3.out.op hop; subst hr4; have HN4 := Lib.hid hn4; clear hop hn4))
      exact ⟨⟨k + 1, F4, v4, by omega, by go_num, HN4⟩, by simp [intOf] <;> omega⟩
    · obtain rfl : k = n := by omega
      have HF := HI.out
      rw [List.take_of_length_le (by rw [HLN.out]; exact Nat.le_refl _)] at HF
      have HF := Lib.hid HF
      go_wp2
      go_ret
      exact ⟨bT, F1, v1, rfl, HF.out⟩
theorem OpT.none {w w' : World} {bT : Nat} {F : Nat → Prop} {v : Value} {L : List Pt} (hb : Below w.heap.size w w') (h : TgB w' bT F v L) : OpT w bT F v L (.returned (.tuple #[])) w' :=
  ⟨v, F, rfl, h, Chg.of_below hb, fun b hb => Or.inl hb, fun b hb => Or.inl hb⟩
theorem OpT.pre {w w1 w' : World} {bT : Nat} {F : Nat → Prop} {v : Value} {L : List Pt} {e : Ending} (hb : Below w.heap.size w w1) (h : OpT w1 bT F v L e w') : OpT w bT F v L e w' := by
  obtain ⟨v', F', h1, h2, h3, h4, h5⟩ := h
  exact ⟨v', F', h1, h2, (Chg.of_below (S := fun k => k = bT ∨ v.ownBlock = some k) hb).tr h3 (fun b hb => Or.inl hb), fun b hb2 => (h4 b hb2).imp id (Nat.le_trans hb.size), fun b hb2 => (h5 b hb2).imp id (Nat.le_trans hb.size)⟩
theorem OpT.unit {w w' : World} {bT : Nat} {F : Nat → Prop} {v : Value} {L : List Pt} {e : Ending} (h : OpT w bT F v L e w') : e = .returned (.tuple #[]) := by
  obtain ⟨v', F', h1, _⟩ := h
  exact h1
set_option maxRecDepth 100000 in
set_option maxHeartbeats 8000000 in
theorem tapply_any {w : World} {bT : Nat} {F : Nat → Prop} {v : Value} {L : List Pt} (x : Wq) (h : TgB w bT F v L) (hx : dok x.dg) (hL : L.length ≤ 1048576) (hi : insLeT L 2097151) :
    Calls Try.prog 8 #[.pointer (some ⟨bT, 0, none⟩), x.v] w fun r w' => OpT w bT F v (applyT L x) r w' := by
  obtain ⟨w0, hw0⟩ : ∃ W, w.alloc (.cells (mixC x.a x.dg x.t) 33) = W := ⟨_, rfl⟩
  have hb0 : Below w.heap.size w w0 := by rw [← hw0]; exact (Below.refl _ _).alloc (Nat.le_refl _) _
  have hm0 : Wm w0 w.heap.size x := by rw [← hw0]; exact heap_alloc_new _ _
  have HB0 := Lib.hid hb0
  have H0 := Lib.hid (h.later hb0)
  have HX := Lib.hid hx
  have HLW := Lib.hid fun W (hW : Below w0.heap.size w0 W) => (hm0.later hW).load hx.1
  have HCW := Lib.hid fun W (hW : Below w0.heap.size w0 W) => (hm0.later hW).cells5 hx.1
  have HLL := Lib.hid hL
  have HGT := Lib.hid (tget_any x.nm H0.out (fun y hy => Nat.le_trans (hi y hy) (by decide)) (Nat.le_trans hL (by decide)))
  have HGI := Lib.hid (getTR_ins hi x.nm)
  have HGD : Hid (dok (getTR L x.nm).1.dg) := Lib.hid (by
    obtain ⟨Ls, h, rfl, hr⟩ := h
    unfold getTR
    cases hg : getT (ptP Ls) x.nm with
    | none => exact dz32_ok
    | some y => exact h.dok y (getT_mem hg).1)
  have HAP : Hid (applyT L x = _) := Lib.hid (by unfold applyT; rfl)
  obtain ⟨E, hE⟩ : ∃ E, (getTR L x.nm).1 = E := ⟨_, rfl⟩
  obtain ⟨fb, hfb⟩ : ∃ E, (getTR L x.nm).2 = E := ⟨_, rfl⟩
  have HGQ : Hid (getTR L x.nm = (E, fb)) := Lib.hid (by rw [← hE, ← hfb])
  rw [HGQ.out] at HGT
  rw [hE] at HGI HGD HAP
  rw [hfb] at HAP
  obtain ⟨k0, k3, _⟩ := HCW.out w0 (Below.refl _ _)
  obtain ⟨MX, hMX⟩ : ∃ x1, mixC x.a x.dg x.t = x1 := ⟨_, rfl⟩
  have HMX := Lib.hid hMX
  unfold Wq.v at *
  rw [hMX] at HLW hw0 ⊢
  clear h hx hb0 hm0 hL hi hE hfb hMX
  go_enter Try.func8, Try.ntmps8
  by_cases h3 : x.k = 3
  · have HA1 : Hid (applyT L x = setT L (tagT E x)) := Lib.hid (by rw [HAP.out, if_pos h3])
    rw [h3] at k0
    clear h3
    go_upto_region 5 with (first
      | (go_at_call 12; refine HGT.out.mono ?_; rintro e w3 ⟨u, rfl, hg3, hb3⟩; obtain ⟨q3, d3, hv3, _⟩ := hg3.open; subst hv3; have HU3 := Lib.hid hg3; have HB3 := Lib.hid hb3; clear hg3 hb3; unfold tnV)
      | (refine wpList_store_row rfl 42 _ _ rfl w3.heap.size (tnC E _) rfl rfl 42 _ (heap_alloc_new _ _) (tnC_sizeOf E _ HGD.out.1) ((tnC_size zeroT _ rfl).trans (tnC_size E _ HGD.out.1).symm) (tnC_one _ _ _ _) ?_; generalize hw4 : World.setRow _ _ _ = w4))
    obtain ⟨he4, hb4⟩ := tnC_lay rfl hw4
    obtain ⟨g4, hg4⟩ : ∃ g, w3.heap.size = g := ⟨_, rfl⟩
    rw [hg4] at he4
    rw [hg4]
    have HB4 := Lib.hid (below_step HB3.out hb4)
    have HL4 := Lib.hid (he4.load HGD.out.1)
    have HW4 := Lib.hid (HLW.out _ HB4.out)
    have HIS4 : Hid (Is w4 (.slice q3 E.ins.length d3) E.ins) := Lib.hid (HU3.out.is.later hb4)
    have HPT := Lib.hid (ptag_any E (.slice q3 E.ins.length d3) x w4 HIS4.out HGD.out HX.out (Nat.le_trans HGI.out (by decide)))
    unfold tnV Wq.v at HPT
    rw [HMX.out] at HPT
    obtain ⟨m3, hm3⟩ : ∃ m, E.ins.length = m := ⟨_, rfl⟩
    rw [hm3] at HL4 HPT
    clear he4 hb4 hw4 hg4 hw0 k0 k3
    go_wp2_with (first
      | (refine wpList_ld rfl 42 _ rfl _ rfl _ HL4.out ?_)
      | (refine wpList_ld rfl 33 _ rfl _ rfl _ HW4.out ?_)
      | (go_at_call 27; refine HPT.out.mono ?_; rintro r w5 ⟨u5, rfl, hg5, hb5⟩; have HB5 := Lib.hid (below_step HB4.out hb5); have HSE := (Lib.hid (setT_any (tagT E x) u5 (H0.out.later HB5.out) hg5.is HX.out (Nat.le_trans (putrow_length _ _) (by have := HGI.out; omega)) HLL.out)); clear hg5 hb5; unfold tnV at HSE; unfold tnV)
      | (go_at_call 25; refine HSE.out.mono ?_; rintro r w6 hop; have HOP := Lib.hid hop; have hr := hop.unit; subst hr; clear hop))
    refine bodyPost_end (results_none rfl _ _ _) rfl ?_
    rw [HA1.out]
    exact HOP.out.pre (below_step HB0.out HB5.out)
  · have hk3 : (x.k == 3) = false := by simpa using h3
    have HK3 := Lib.hid h3
    clear h3
    by_cases h4 : x.k = 4
    · have HA4 : Hid (fb = true → applyT L x = setT L (untT E x)) := Lib.hid fun hf => by rw [HAP.out, if_neg HK3.out, if_pos ⟨h4, hf⟩]
      have HA5 : Hid (fb = false → applyT L x = L) := Lib.hid fun hf => by rw [HAP.out, if_neg HK3.out, if_neg (fun h => by rw [hf] at h; cases h.2)]
      rw [h4] at k0
      clear h4 hk3
      go_upto_region 8 with (first
        | (go_at_call 12; refine HGT.out.mono ?_; rintro e w3 ⟨u, rfl, hg3, hb3⟩; obtain ⟨q3, d3, hv3, _⟩ := hg3.open; subst hv3; have HU3 := Lib.hid hg3; have HB3 := Lib.hid hb3; clear hg3 hb3; unfold tnV)
        | (refine wpList_store_row rfl 42 _ _ rfl w3.heap.size (tnC E _) rfl rfl 42 _ (heap_alloc_new _ _) (tnC_sizeOf E _ HGD.out.1) ((tnC_size zeroT _ rfl).trans (tnC_size E _ HGD.out.1).symm) (tnC_one _ _ _ _) ?_; generalize hw4 : World.setRow _ _ _ = w4))
      obtain ⟨he4, hb4⟩ := tnC_lay rfl hw4
      obtain ⟨g4, hg4⟩ : ∃ g, w3.heap.size = g := ⟨_, rfl⟩
      rw [hg4] at he4
      rw [hg4]
      have HB4 := Lib.hid (below_step HB3.out hb4)
      have HL4 := Lib.hid (he4.load HGD.out.1)
      have HW4 := Lib.hid (HLW.out _ HB4.out)
      have HIS4 : Hid (Is w4 (.slice q3 E.ins.length d3) E.ins) := Lib.hid (HU3.out.is.later hb4)
      have HPT := Lib.hid (punt_any E (.slice q3 E.ins.length d3) x w4 HIS4.out HGD.out HX.out (Nat.le_trans HGI.out (by decide)))
      unfold tnV Wq.v at HPT
      rw [HMX.out] at HPT
      obtain ⟨m3, hm3⟩ : ∃ m, E.ins.length = m := ⟨_, rfl⟩
      rw [hm3] at HL4 HPT
      clear he4 hb4 hw4 hg4 hw0 k0 k3
      cases fb with
      | true =>
        have HA1 := Lib.hid (HA4.out (by first | rfl | trivial))
        go_wp2_with (first
          | (refine wpList_ld rfl 42 _ rfl _ rfl _ HL4.out ?_)
          | (refine wpList_ld rfl 33 _ rfl _ rfl _ HW4.out ?_)
          | (go_at_call 28; refine HPT.out.mono ?_; rintro r w5 ⟨u5, rfl, hg5, hb5⟩; have HB5 := Lib.hid (below_step HB4.out hb5); have HSE := (Lib.hid (setT_any (untT E x) u5 (H0.out.later HB5.out) hg5.is dz32_ok (Nat.le_trans (rowI_length _) (by have := HGI.out; omega)) HLL.out)); clear hg5 hb5; unfold tnV at HSE; unfold tnV)
          | (go_at_call 25; refine HSE.out.mono ?_; rintro r w6 hop; have HOP := Lib.hid hop; have hr := hop.unit; subst hr; clear hop))
        refine bodyPost_end (results_none rfl _ _ _) rfl ?_
        rw [HA1.out]
        exact HOP.out.pre (below_step HB0.out HB5.out)
      | false =>
        have HA1 := Lib.hid (HA5.out (by first | rfl | trivial))
        go_wp2
        refine bodyPost_end (results_none rfl _ _ _) rfl ?_
        rw [HA1.out]
        exact OpT.none (below_step HB0.out HB4.out) (H0.out.later HB4.out)
    · have hk4 : (x.k == 4) = false := by simpa using h4
      have HA1 : Hid (applyT L x = L) := Lib.hid (by rw [HAP.out, if_neg HK3.out, if_neg (fun h => h4 h.1)])
      clear h4
      go_wp2
      refine bodyPost_end (results_none rfl _ _ _) rfl ?_
      rw [HA1.out]
      exact OpT.none HB0.out H0.out
end Go.Proofs.Ytieednadbcghjaa

namespace Go.Proofs.Ytieednadbcghjaa
set_option linter.unusedVariables false
open Go.RowKit Go.Lib

/-- a table's content is put into another header -/
theorem tgb_move {W V : World} {b2 bT : Nat} {F : Nat → Prop} {v : Value} {L : List Pt} (h : TgB W b2 F v L) (hd : Th V bT v (cntT L : Int)) (hk : ∀ k, k ≠ bT → V.heap[k]? = W.heap[k]?) (hs : W.heap.size ≤ V.heap.size) (hv : ∀ k, v.ownBlock = some k → k ≠ bT) (hF : ∀ k, F k → k ≠ bT) : TgB V bT F v L := by
  obtain ⟨Ls, h, rfl, hr⟩ := h
  exact ⟨Ls, ⟨hd, h.row.holdP fun k hb => hk k (hv k hb), hv, fun q hq => (h.en q hq).keep fun k hF2 => hk k (hF k hF2), fun k hF2 => Nat.lt_of_lt_of_le (h.lt k hF2) hs, fun k hF2 => ⟨(h.dis k hF2).1, hF k hF2⟩⟩, rfl, hr⟩
set_option maxRecDepth 100000 in
set_option maxHeartbeats 4000000 in
theorem tkeep_any {w : World} {bT : Nat} {F : Nat → Prop} {v : Value} {L : List Pt} (p2 : Option Addr) (m2 c2 : Nat) (B : List Int) (h : TgB w bT F v L) (hu : Gs encI w p2 m2 B) (hm : m2 ≤ 2097152) (hL : L.length ≤ 1048576) (hi : insLeT L 2097152) :
    Calls Try.prog 10 #[.pointer (some ⟨bT, 0, none⟩), .slice p2 m2 c2] w fun r w' => OpT w bT F v (keepTs L B) r w' := by
  obtain ⟨Ls, h, rfl, hr⟩ := h
  have H := Lib.hid h
  have HR := Lib.hid hr
  have HIN := Lib.hid hi
  have HU := Lib.hid hu
  have HM2 := Lib.hid hm
  have HLL : Hid ((ptP Ls).length = Ls.length) := Lib.hid (ptP_length Ls)
  have hnl : Ls.length ≤ 1048576 := by rw [← ptP_length]; exact hL
  have HLN := Lib.hid hL
  obtain ⟨p, c, rfl, hlc, hcm, hgs⟩ := h.pt
  have c0 := h.hd.cells.1
  have HGS := Lib.hid hgs
  obtain ⟨n, hn⟩ : ∃ n, Ls.length = n := ⟨_, rfl⟩
  rw [hn] at c0 HGS hlc hnl HLL H ⊢
  have HNN := Lib.hid hn
  clear h hr hL hgs hn hi hu hm
  go_enter Try.func10, Try.ntmps10
  go_wp2
  go_loopw [4, 16] (fun ov j wr => ∃ (k : Nat) (q : Option Addr) (m d : Nat) (o : List Tx), k ≤ n ∧ j = .int .i64 (k : Int) ∧ ov = .slice q m d ∧ Hid (ptL o = keepTs ((ptP Ls).take k) B) ∧ Hid (Gw encTn wr w.heap.size (.slice q m d) o) ∧ Hid (∀ x ∈ o, dok x.e.dg ∧ Gw encI wr w.heap.size x.s x.e.ins) ∧ Hid (Below w.heap.size w wr)) (fun _ j _ => n - (intOf j).toNat)
  case atStart => exact ⟨0, none, 0, 0, [], by omega, rfl, rfl, Lib.hid rfl, Lib.hid (Gw.nil _ _ _), Lib.hid (fun x hx => by cases hx), Lib.hid (Below.refl _ _)⟩
  case round =>
    obtain ⟨k, q, m, d, o, hkn, rfl, rfl, HE, HO, HM, HB⟩ := hrel
    by_cases hlt : k < n
    · obtain ⟨b1, off, y, rfl, hy1, hy3, cq⟩ := (HGS.out.later HB.out).tp k hlt
      have HY := Lib.hid ((H.out.later HB.out).en y hy3)
      have HLY := Lib.hid (HY.out.tn.load HY.out.dk.1)
      have HC := Lib.hid (pkeept_any y.x.e y.x.s p2 m2 c2 B wr HY.out.is (HU.out.later HB.out) HY.out.dk (HIN.out _ (List.mem_map.2 ⟨y, hy3, rfl⟩)) HM2.out)
      have HT := Lib.hid (keepTs_take (ptP_get hy1) B)
      have HYD := Lib.hid (keepT_dok21 HY.out.dk B)
      have HOL : Hid (o.length + 1 ≤ 2097216) := Lib.hid (by
        have h5 := congrArg List.length HE.out
        have h6 := keepTs_length ((ptP Ls).take k) B
        rw [ptL_length] at h5
        rw [List.length_take] at h6
        omega)
      have hki : (k : Int) < (n : Int) := by omega
      have hk0 : (0 : Int) ≤ (k : Int) := by omega
      obtain ⟨bq, hbq⟩ : ∃ x, y.b = x := ⟨_, rfl⟩
      rw [hbq] at cq HLY
      obtain ⟨R, hR⟩ : ∃ x, (keepT y.x.e B).1 = x := ⟨_, rfl⟩
      obtain ⟨ok, hok⟩ : ∃ x, (keepT y.x.e B).2 = x := ⟨_, rfl⟩
      have hRR : keepT y.x.e B = (R, ok) := by rw [← hR, ← hok]
      rw [hRR] at HC
      rw [hR] at HT HYD
      rw [hok] at HT
      unfold tnV at HC
      obtain ⟨ME, hME⟩ : ∃ x, tnC y.x.e y.x.s = x := ⟨_, rfl⟩
      rw [hME] at HLY HC
      clear hy1 hy3 hbq hR hok hRR hME HY
      go_upto_region 6 with (first
        | (refine wpList_ld rfl 42 _ rfl _ rfl _ HLY.out ?_)
        | (go_at_call 31; refine HC.out.mono ?_; rintro e w2 ⟨u2, rfl, hg2, hb2⟩; have HG2 := Lib.hid hg2; have HB2 := Lib.hid hb2; obtain ⟨q2, d2, hv2, _⟩ := hg2.open; subst hv2; clear hg2 hb2; unfold tnV)
        | (refine wpList_store_row rfl 42 _ _ rfl w2.heap.size (tnC R _) rfl rfl 42 _ (heap_alloc_new _ _) (tnC_sizeOf R _ HYD.out.1) ((tnC_size zeroT _ rfl).trans (tnC_size R _ HYD.out.1).symm) (tnC_one _ _ _ _) ?_; generalize hv3 : World.setRow _ _ _ = w3))
      obtain ⟨he3, hb3⟩ := tnC_lay rfl hv3
      obtain ⟨g3, hg3⟩ : ∃ g, w2.heap.size = g := ⟨_, rfl⟩
      rw [hg3] at he3
      rw [hg3]
      obtain ⟨X, hX⟩ : ∃ X : Tx, X = ⟨R, q2, d2, HYD.out.1⟩ := ⟨_, rfl⟩
      have HXG : Hid (Gw encI w3 w.heap.size X.s X.e.ins) := Lib.hid (by rw [hX]; exact (HG2.out.later hb3).mono HB.out.size)
      have HXE : Hid (X.e = R) := Lib.hid (by rw [hX])
      have HXC : Hid (tnC R (.slice q2 R.ins.length d2) = tnC X.e X.s) := Lib.hid (by rw [hX]; rfl)
      have HO3 := Lib.hid (HO.out.later (below_step HB2.out hb3))
      have HM3 : Hid (∀ x ∈ o, dok x.e.dg ∧ Gw encI w3 w.heap.size x.s x.e.ins) := Lib.hid fun x hx => ⟨(HM.out x hx).1, (HM.out x hx).2.later (below_step HB2.out hb3)⟩
      have HB3 := Lib.hid (below_step HB.out (below_step HB2.out hb3))
      have HLV := Lib.hid (he3.load HYD.out.1)
      rw [HXC.out] at HLV
      clear he3 hb3 hv3 hg3 hX
      cases ok with
      | true =>
        have HE2 : Hid (ptL (o ++ [X]) = keepTs ((ptP Ls).take (k + 1)) B) := Lib.hid (by rw [HT.out, if_pos rfl, ptL_append, HE.out, ← HXE.out]; rfl)
        go_wp2_with (first
          | (refine wpList_ld rfl 42 _ rfl _ rfl _ HLV.out ?_)
          | (refine wpList_build_tn rfl 22 30 rfl Try.underlying22 X rfl ?_)
          | (refine wpList_append_gen encTn rfl _ _ 22 rfl Try.underlying22 tzero 104 infoTn tzero_size (by decide) w.heap.size _ o rfl (HO3.out.alloc _) _ 1 1 [X] rfl (Gs.oneTn _ X) (fun h => by cases h) HOL.out (by have h1 := HB3.out.size; rw [World.size_alloc]; omega) ?_; intro v8 w8 ho8 hg8; obtain ⟨p8, c8, hv8, _⟩ := ho8.open; obtain ⟨m8, hm8⟩ : ∃ x, (o ++ [X]).length = x := ⟨_, rfl⟩; rw [hm8] at hv8; subst hv8; have HO8 := Lib.hid ho8; have HB8 := Lib.hid (below_appT (HB3.out.alloc HB3.out.size (.cells (tnC X.e X.s) 42)) (HO3.out.alloc _) (Nat.le_refl _) hg8); have HM8 : Hid (∀ x ∈ o ++ [X], dok x.e.dg ∧ Gw encI w8 w.heap.size x.s x.e.ins) := (Lib.hid (fun x hx => (List.mem_append.1 hx).elim (fun h => ⟨(HM3.out x h).1, ((HM3.out x h).2.alloc _).besideTn (HO3.out.alloc _) hg8⟩) (fun h => (List.mem_singleton.1 h) ▸ ⟨(by rw [HXE.out]; exact HYD.out), (HXG.out.alloc _).besideTn (HO3.out.alloc _) hg8⟩))); clear ho8 hg8 hm8))
        exact ⟨⟨k + 1, p8, m8, c8, o ++ [X], by omega, by go_num, rfl, HE2, HO8, HM8, HB8⟩, by simp [intOf] <;> omega⟩
      | false =>
        have HE2 : Hid (ptL o = keepTs ((ptP Ls).take (k + 1)) B) := Lib.hid (by rw [HT.out, HE.out]; simp)
        go_wp2
        exact ⟨⟨k + 1, q, m, d, o, by omega, by go_num, rfl, HE2, HO3, HM3, HB3⟩, by simp [intOf] <;> omega⟩
    · obtain rfl : k = n := by omega
      have HF : Hid (ptL o = keepTs (ptP Ls) B) := Lib.hid (by have h1 := HE.out; rwa [List.take_of_length_le (by rw [HLL.out]; exact Nat.le_refl _)] at h1)
      obtain ⟨q9, d9, hv9, h5, h6, h7, h8⟩ := gwTn_open HO.out
      simp only [Value.slice.injEq] at hv9
      obtain ⟨rfl, hmo, rfl⟩ := hv9
      have HRE : Hid (ReT wr (fun b => False ∨ (w.heap.size ≤ b ∧ b < wr.heap.size)) q m o) := Lib.hid ((ReT.none w).next HB.out HO.out.gs (fun _ b off e => Or.inr (h8 b off e)) (fun x hx => Or.inr (HM.out x hx)))
      have HNW := Lib.hid (tnew_any (c := d) HRE.out (by rw [hmo, ← ptL_length, HF.out]; exact Nat.le_trans (keepTs_length _ _) HLN.out) (by rw [HF.out]; exact fun y hy => Nat.le_trans (keepTs_ins HIN.out B y hy) (by decide)))
      rw [HF.out, newT_self (keepTs_row HR.out B)] at HNW
      have HHR := Lib.hid ((H.out.later HB.out).hd)
      clear hmo h5 h6 h7 h8 c0
      go_wp2_with fail
      refine HNW.out.mono ?_
      rintro r w5 ⟨b5, F5, v5, rfl, hn5⟩
      have HN5 := Lib.hid hn5
      have HH5 : Hid (Th w5 bT (.slice p k c) (cntT (ptP Ls) : Int)) := (Lib.hid ((hn5.le.block bT HHR.out.lt).trans HHR.out))
      obtain ⟨x0, x1⟩ := HH5.out.cells
      have f0 := HH5.out.frozen 0
      have f1 := HH5.out.frozen 1
      obtain ⟨L5, ht5, hp5, _⟩ := hn5.tg
      obtain ⟨y0, y1⟩ := ht5.hd.cells
      obtain ⟨p5, c5, hv5, _⟩ := ht5.pt
      obtain ⟨n5, hn5'⟩ : ∃ x, L5.length = x := ⟨_, rfl⟩
      rw [hn5'] at hv5
      subst hv5
      clear hn5 ht5 hp5 hn5'
      go_wp2
      refine bodyPost_end (results_none rfl _ _ _) rfl ?_
      have HLB := HHR.out.lt
      have hV1 := HH5.out.setV (.slice p5 n5 c5)
      have hV := hV1.setN (cntT (keepTs (ptP Ls) B) : Int)
      have hc1 := HH5.out.chg 0 (.slice p5 n5 c5)
      have hc2 := hV1.chg 1 (.int .i64 (cntT (keepTs (ptP Ls) B) : Int))
      have hk : ∀ b, b ≠ bT → ((w5.setCell ⟨bT, 0, none⟩ (.slice p5 n5 c5)).setCell ⟨bT, 1, none⟩ (.int .i64 (cntT (keepTs (ptP Ls) B) : Int))).heap[b]? = w5.heap[b]? := fun b hb => (heap_setCell_other _ ⟨bT, 1, none⟩ b _ hb).trans (heap_setCell_other _ ⟨bT, 0, none⟩ b _ hb)
      have hs : w5.heap.size ≤ ((w5.setCell ⟨bT, 0, none⟩ (.slice p5 n5 c5)).setCell ⟨bT, 1, none⟩ (.int .i64 (cntT (keepTs (ptP Ls) B) : Int))).heap.size := by rw [World.size_setCell, World.size_setCell]; exact Nat.le_refl _
      have hsz := HB.out.size
      exact ⟨.slice p5 n5 c5, F5, rfl, tgb_move HN5.out.tg hV hk hs (fun b hb e => by have := HN5.out.s b hb; omega) (fun b hb e => by have := HN5.out.f b hb; omega),
        (((Chg.of_below (S := fun b => b = bT ∨ (Value.slice p k c).ownBlock = some b) HB.out).tr (Chg.of_below (S := fun b => b = bT) HN5.out.le) (fun b hb => Or.inl (Or.inl hb))).tr hc1 (fun b hb => Or.inl (Or.inl hb))).tr hc2 (fun b hb => Or.inl (Or.inl hb)),
        fun b hb => Or.inr (Nat.le_trans hsz (HN5.out.s b hb)), fun b hb => Or.inr (Nat.le_trans hsz (HN5.out.f b hb))⟩
end Go.Proofs.Ytieednadbcghjaa

namespace Go.Proofs.Ytieednadbcghjaa
set_option linter.unusedVariables false
open Go.RowKit Go.Lib

/-- a table in memory: its own blocks are its header and its row of pointers; it reads besides its entries and their rows of segments -/
def Ix0 (w : World) (S F : Nat → Prop) (v : Value) (L : List Pt) : Prop := ∃ bT vr, v = .pointer (some ⟨bT, 0, none⟩) ∧ S = (fun k => k = bT ∨ vr.ownBlock = some k) ∧ TgB w bT F vr L ∧ insLeT L 2097152 ∧ L.length ≤ 1048577
theorem op0T {w w' : World} {bT : Nat} {F : Nat → Prop} {vr : Value} {L : List Pt} {e : Ending} (h : OpT w bT F vr L e w') (hi : insLeT L 2097152 ∧ L.length ≤ 1048577) : OpGQ Ix0 w (fun k => k = bT ∨ vr.ownBlock = some k) F (.pointer (some ⟨bT, 0, none⟩)) L e w' := by
  obtain ⟨v', F', h1, h2, h3, h4, h5⟩ := h
  exact ⟨fun k => k = bT ∨ v'.ownBlock = some k, F', h1, ⟨bT, v', rfl, rfl, h2, hi⟩, h3, fun b hb => hb.elim (fun e => Or.inl (Or.inl e)) (fun e => (h4 b e).imp Or.inr id), h5⟩
theorem insLeT.up {L : List Pt} {k m : Nat} (h : insLeT L k) (hk : k ≤ m) : insLeT L m := fun x hx => Nat.le_trans (h x hx) hk
theorem tags_ok : TagOk Ix0 where
  keep := by
    rintro w w' S F v L ⟨bT, vr, rfl, rfl, ⟨Ls, h, h1, h2⟩, hi⟩ hk hs
    exact ⟨bT, vr, rfl, rfl, ⟨Ls, h.keep (fun k hk2 => hk k (hk2.elim (fun e => Or.inl (Or.inl e)) (fun e => e.elim (fun e => Or.inl (Or.inr e)) Or.inr))) hs, h1, h2⟩, hi⟩
  lt := by
    rintro w S F v L ⟨bT, vr, rfl, rfl, ⟨Ls, h, h1, h2⟩, hi⟩ b hb
    exact h.all_lt b (hb.elim (fun e => e.elim Or.inl (fun e => Or.inr (Or.inl e))) (fun e => Or.inr (Or.inr e)))
  dis := by
    rintro w S F v L ⟨bT, vr, rfl, rfl, ⟨Ls, h, h1, h2⟩, hi⟩ b hb hf
    exact hb.elim (h.dis b hf).2 (h.dis b hf).1
  ok := by
    rintro w S F v L ⟨bT, vr, rfl, rfl, ⟨Ls, h, rfl, h2⟩, hi⟩
    exact ⟨h2, h.dok⟩
  new := by
    intro w N p n c Ls h hpc hnc hcm hn hi
    refine (tnew_any h hn (hi.up (by decide))).mono ?_
    rintro e w' ⟨bT, F, vr, h1, h2⟩
    exact ⟨_, _, F, h1, ⟨bT, vr, rfl, rfl, h2.tg, (newT_ins hi).up (by decide), Nat.le_trans (newT_length _) (by rw [ptL_length, h.gs.len]; omega)⟩, fun b hb => hb.elim (fun e => by rw [e]; exact h2.i) (h2.s b), fun b hb => Or.inr (h2.f b hb), h2.le⟩
  apply := by
    rintro w S F v L x ⟨bT, vr, rfl, rfl, h, hi0⟩ hx hL hi
    exact (tapply_any x h hx hL hi).mono fun e w' ho => op0T ho ⟨applyT_ins hi, Nat.le_trans (applyT_length _ _) (by omega)⟩
  keepS := by
    rintro w S F v u L B ⟨bT, vr, rfl, rfl, h, hi0⟩ hu hub hB hL hi
    obtain ⟨p2, c2, rfl, hg, _⟩ := hu
    exact (tkeep_any p2 B.length c2 B h hg hB hL hi0.1).mono fun e w' ho => op0T ho ⟨keepTs_ins hi0.1 B, Nat.le_trans (keepTs_length _ _) hi0.2⟩
  get := by
    rintro w S F v L s ⟨bT, vr, rfl, rfl, h, hi⟩
    refine (tget_any s h (hi.1.up (by decide)) hi.2).mono ?_
    rintro e w' ⟨u, h1, h2, h3⟩
    exact ⟨u, h1, h2.is, fun _ b hb => Or.inr (World.ownsRow.lt h2 b hb).1, h3⟩
  row := by
    rintro w S F v L ⟨bT, vr, rfl, rfl, h, hi⟩ hL
    exact trow_any h (hi.1.up (by decide)) (Nat.le_trans hL (by decide))
  count := by
    rintro w S F v L ⟨bT, vr, rfl, rfl, h, hi⟩ hL
    exact tcount_any h
  list := by
    rintro w S F v L s n ⟨bT, vr, rfl, rfl, h, hi⟩ hL _ _
    exact tlist_any s n h (Nat.le_trans hL (by decide))
  names := by
    rintro w S F v L ⟨bT, vr, rfl, rfl, h, hi⟩ hL
    exact tnames_any h (Nat.le_trans hL (by decide))
set_option maxRecDepth 100000 in
theorem tags_nil : TagNil where
  apply := by
    intro w x hx
    have HB : Hid (Below w.heap.size w (w.alloc (.cells (mixC x.a x.dg x.t) 33))) := Lib.hid ((Below.refl _ _).alloc (Nat.le_refl _) _)
    unfold Wq.v
    generalize mixC x.a x.dg x.t = MX at *
    clear hx
    go_enter Try.func8, Try.ntmps8
    go_wp2
    refine bodyPost_ret (results_none rfl _ _ _) rfl ?_
    exact ⟨rfl, HB.out⟩
  keepS := by
    intro w u B hu
    obtain ⟨p, c, rfl, _⟩ := hu
    go_enter Try.func10, Try.ntmps10
    go_wp2
    refine bodyPost_ret (results_none rfl _ _ _) rfl ?_
    exact ⟨rfl, Below.refl _ _⟩
  get := by
    intro w s
    obtain ⟨w2, hw2⟩ : ∃ W, w.alloc (.cells (tnC zeroT (.slice none 0 0)) 42) = W := ⟨_, rfl⟩
    have HZ : Hid (Tn w2 w.heap.size zeroT (.slice none 0 0)) := Lib.hid (by rw [← hw2]; exact heap_alloc_new _ _)
    have HB : Hid (Below w.heap.size w w2) := Lib.hid (by rw [← hw2]; exact (Below.refl _ _).alloc (Nat.le_refl _) _)
    have HBU := Lib.hid built_tn0
    rw [tnZero] at hw2
    go_enter Try.func12, Try.ntmps12
    go_wp2_with (first
      | (refine wpList_build_is rfl 42 _ rfl (tnC zeroT (.slice none 0 0)) ?_ ?_; focus (first | (simp only [List.map_toArray, List.map_nil]; exact HBU.out) | (simp only [Array.map_empty]; exact HBU.out) | (simp; exact HBU.out)))
      | (refine wpList_store_row rfl 42 _ _ rfl w.heap.size (tnC zeroT (.slice none 0 0)) rfl rfl 42 _ HZ.out (tnC_sizeOf zeroT _ rfl) rfl (tnC_one _ _ _ _) ?_; generalize hw6 : World.setRow _ _ _ = w6))
    have HM6 : Tn w6 w.heap.size zeroT (.slice none 0 0) := by rw [← hw6]; exact Mx.row HZ.out
    refine bodyPost_ret (HM6.res2 rfl rfl _ rfl) rfl ?_
    exact ⟨rfl, by rw [← hw6]; exact below_setRow8 HB.out _ _ (Nat.le_refl _)⟩
  count := by
    intro w
    go_enter Try.func15, Try.ntmps15
    go_wp2
    go_ret
    exact ⟨rfl, Below.refl _ _⟩
  list := by
    intro w s n
    have HB : Hid (Below w.heap.size w (w.alloc (.cells #[.string s] 9))) := Lib.hid ((Below.refl _ _).alloc (Nat.le_refl _) _)
    go_enter Try.func18, Try.ntmps18
    go_wp2
    go_ret
    exact ⟨rfl, HB.out⟩
  names := by
    intro w
    go_enter Try.func21, Try.ntmps21
    go_wp2
    go_ret
    exact ⟨rfl, Below.refl _ _⟩
  row := by
    intro w
    go_enter Try.func23, Try.ntmps23
    go_wp2
    go_ret
    exact ⟨rfl, Below.refl _ _⟩
end Go.Proofs.Ytieednadbcghjaa

namespace Go.Proofs.Ytieednadbcghjaa
set_option linter.unusedVariables false
open Go.RowKit Go.Lib Go.ChangeShapes Go.WideShapes Go.ChangeAt

theorem tagsdoes_walk (p : Option Addr) (n c : Nat) (Ls : List Tx) (K : Nat) (q : Option Addr) (m d : Nat) (D : List Tq) (w : World)
    (hR : ReT w (fun b => b < w.heap.size) p n Ls) (hpc : p = none → c = 0) (hnc : n ≤ c) (hcm : c ≤ maxLen) (hil : insLeT (ptL Ls) K) (hD : Gs encTq w q m D) (hDi : ∀ x ∈ D, Is w x.s x.B ∧ dok x.w.dg ∧ x.B.length ≤ 1048576 ∧ -9223372036854775808 ≤ x.n ∧ x.n ≤ 9223372036854775807) (hnm : n + m ≤ 1048576) (hkm : K + m ≤ 1048576) :
    Calls Try.prog 3 #[.slice p n c, .slice q m d] w fun e w' => e = .returned (.bool true) ∧ Below w.heap.size w w' := tagsdoes_any tags_ok p n c Ls q m d D K w hR hpc hnc hcm hil hD hDi hnm hkm
set_option maxRecDepth 100000 in
theorem tagsDoes_contract (H : Type) (enc : TypeId × Value → H) (W : World) (base : Nat) (args : Array Value) (ds gs : List (DataW H)) (before : List MemPlace)
    (hval : ∀ (j : Nat) t v, Try.f3.params[j]? = some t → args[j]? = some v → Value.okWide Try.prog W .any base t v)
    (hW : DataW.Whole enc Try.prog Try.f3.params.toList Rows.tagsDoesSpec.vars false W args.toList ds gs before) (hk : Rows.uptoSmall H (ds ++ gs) = true) :
    Calls Try.prog 3 args W fun e W' => ∃ v, e = .returned v ∧ Rows.tagsDoesSpec.post enc Try.prog Try.f3 false true false false W args v W' := by
  have hW' := hW
  obtain ⟨p, q, hA0, hV, rfl, hfz, hnd⟩ := hW
  have hA : DataW.TrodAll enc Try.prog W 0 (fun _ => true) true Try.f3.params.toList args.toList ds p := hA0
  rw [Try.params3] at hA hval
  obtain ⟨v0, vs0, d0, ds0, p0, q0, hargs, rfl, rfl, t0, r0⟩ := trodAll_cons hA
  obtain ⟨v1, vs1, d1, ds1, p1, q1, rfl, rfl, rfl, t1, r1⟩ := trodAll_cons r0
  obtain ⟨rfl, rfl, rfl⟩ := trodAll_nil r1
  obtain rfl : args = #[v0, v1] := by cases args; simp_all
  obtain ⟨rfl, rfl⟩ := trodVars_none hV
  have hk0 := of_decide_eq_true hk
  simp only [Rows.uptoBulkAll, List.append_nil] at hk0
  obtain ⟨a0, len0, cap0, rfl⟩ := okWide_slice Try.underlying22 (hval 0 22 v0 rfl rfl)
  obtain ⟨fuel0, t0⟩ := t0
  obtain ⟨hlc0, hcm0, hpc0, L0, K0, hre0, hil0, hz0⟩ := open_tents t0
  have hz0' : len0 + K0 + 1 ≤ Rows.uptoBulk d0 := hz0
  obtain ⟨a1, len1, cap1, rfl⟩ := okWide_slice Try.underlying23 (hval 1 23 v1 rfl rfl)
  obtain ⟨fuel1, t1⟩ := t1
  obtain ⟨L1, hg1, hdi1, hz1⟩ := open_tdeeds t1
  have hz1' : len1 + 1 ≤ Rows.uptoBulk d1 := hz1
  have hb1' : Rows.uptoBulk d1 ≤ 1048576 := by omega
  have hk' := of_decide_eq_true hk
  simp only [Rows.uptoBulkAll, List.append_nil] at hk'
  refine (tagsdoes_walk  a0 len0 cap0 L0 K0 a1 len1 cap1 L1 W hre0 hpc0 hlc0 hcm0 hil0 hg1 (fun x hx => ⟨(hdi1 x hx).1, (hdi1 x hx).2.1, Nat.le_trans (hdi1 x hx).2.2.1 hb1', (hdi1 x hx).2.2.2⟩) (by omega) (by omega)).mono fun e W' ⟨he, hb⟩ => ?_
  subst he
  exact ⟨_, rfl, law_post laidOut (by kernel_rfl) rfl Try.underlying4 rfl hW' rfl rfl rfl hb⟩

set_option maxRecDepth 100000 in
theorem tagsDoes_lifted (os : Os) (started : os.Started) (H : Type) (enc : TypeId × Value → H) (F : Stop.Interp) :
    ReturnsInHanded {} Try.checked os 3 .any ((Rows.OpenSpec.upto Rows.tagsDoesSpec).pre6 enc Try.prog Try.f3 Rows.tagsDoesUptoRow.domain false) (((Rows.OpenSpec.upto Rows.tagsDoesSpec).at F).post enc Try.prog Try.f3 false true false false) := by
  refine returnsInHanded_of_cond (C := Try.checked) (s := Rows.OpenSpec.upto Rows.tagsDoesSpec) (k := Rows.uptoSmall) rfl own started (by kernel_rfl) Try.func3
    (OpenSpec.witness (enc := enc) (C := Try.checked) (s := Rows.OpenSpec.upto Rows.tagsDoesSpec) (k := Rows.uptoSmall) rfl false ⟨#[], #[.slice none 0 0, .slice none 0 0], []⟩ 8 (by kernel_rfl) (by kernel_rfl) (by kernel_rfl)
      (x := ([.nil, .nil], [], [])) (by kernel_rfl) rfl (by kernel_rfl)) ?_
  intro W base args ds gs before hval hW _ hk _
  exact tagsDoes_contract H enc W base args ds gs before hval hW hk

theorem tagsDoesUpto_holds : Rows.TagsDoesUptoSaid :=
  OpenClaim.holds_of_cond 3 Try.f3 rfl rfl rfl rfl rfl rfl rfl ⟨rfl, rfl, rfl, rfl, rfl⟩ rfl rfl rfl rfl rfl (by kernel_rfl) Try.func3 (by kernel_rfl)
    (of_decide_eq_true (by kernel_rfl)) (by unfold Func.isWrapper; first | (rw [if_pos (by decide +kernel)]; kernel_rfl) | (rw [if_neg (by decide +kernel)]; exact ⟨rfl, rfl⟩))
    (fun os started H enc _ F => tagsDoes_lifted os started H enc F)
end Go.Proofs.Ytieednadbcghjaa

namespace Go.Proofs.Ytieednadbcghjaa
set_option linter.unusedVariables false
open Go.RowKit Go.Lib Go.ChangeShapes Go.WideShapes Go.ChangeAt

theorem tagspages_walk (p : Option Addr) (n c : Nat) (Ls : List Tx) (K : Nat) (N : Int) (w : World)
    (hR : ReT w (fun b => b < w.heap.size) p n Ls) (hpc : p = none → c = 0) (hnc : n ≤ c) (hcm : c ≤ maxLen) (hil : insLeT (ptL Ls) K) (hN1 : -9223372036854775808 ≤ N) (hN2 : N ≤ 9223372036854775807) (hnm : n ≤ 1048575) (hkm : K ≤ 1048576) :
    Calls Try.prog 4 #[.slice p n c, .int .i64 N] w fun e w' => e = .returned (.bool true) ∧ Below w.heap.size w w' := tagspages_any tags_ok p n c Ls N K w hR hpc hnc hcm hil hN1 hN2 hnm hkm
set_option maxRecDepth 100000 in
theorem tagsPages_contract (H : Type) (enc : TypeId × Value → H) (W : World) (base : Nat) (args : Array Value) (ds gs : List (DataW H)) (before : List MemPlace)
    (hval : ∀ (j : Nat) t v, Try.f4.params[j]? = some t → args[j]? = some v → Value.okWide Try.prog W .any base t v)
    (hW : DataW.Whole enc Try.prog Try.f4.params.toList Rows.tagsPagesSpec.vars false W args.toList ds gs before) (hk : Rows.uptoSmall H (ds ++ gs) = true) :
    Calls Try.prog 4 args W fun e W' => ∃ v, e = .returned v ∧ Rows.tagsPagesSpec.post enc Try.prog Try.f4 false true false false W args v W' := by
  have hW' := hW
  obtain ⟨p, q, hA0, hV, rfl, hfz, hnd⟩ := hW
  have hA : DataW.TrodAll enc Try.prog W 0 (fun _ => true) true Try.f4.params.toList args.toList ds p := hA0
  rw [Try.params4] at hA hval
  obtain ⟨v0, vs0, d0, ds0, p0, q0, hargs, rfl, rfl, t0, r0⟩ := trodAll_cons hA
  obtain ⟨v1, vs1, d1, ds1, p1, q1, rfl, rfl, rfl, t1, r1⟩ := trodAll_cons r0
  obtain ⟨rfl, rfl, rfl⟩ := trodAll_nil r1
  obtain rfl : args = #[v0, v1] := by cases args; simp_all
  obtain ⟨rfl, rfl⟩ := trodVars_none hV
  have hk0 := of_decide_eq_true hk
  simp only [Rows.uptoBulkAll, List.append_nil] at hk0
  obtain ⟨a0, len0, cap0, rfl⟩ := okWide_slice Try.underlying22 (hval 0 22 v0 rfl rfl)
  obtain ⟨fuel0, t0⟩ := t0
  obtain ⟨hlc0, hcm0, hpc0, L0, K0, hre0, hil0, hz0⟩ := open_tents t0
  have hz0' : len0 + K0 + 1 ≤ Rows.uptoBulk d0 := hz0
  obtain ⟨m1, rfl, rfl, rfl, wm1⟩ := open_int Try.underlying3 (hval 1 3 v1 rfl rfl) t1
  have hk' := of_decide_eq_true hk
  simp only [Rows.uptoBulkAll, List.append_nil] at hk'
  refine (tagspages_walk  a0 len0 cap0 L0 K0 m1 W hre0 hpc0 hlc0 hcm0 hil0 (wf_i64 wm1).1 (wf_i64 wm1).2 (by omega) (by omega)).mono fun e W' ⟨he, hb⟩ => ?_
  subst he
  exact ⟨_, rfl, law_post laidOut (by kernel_rfl) rfl Try.underlying4 rfl hW' rfl rfl rfl hb⟩

set_option maxRecDepth 100000 in
theorem tagsPages_lifted (os : Os) (started : os.Started) (H : Type) (enc : TypeId × Value → H) (F : Stop.Interp) :
    ReturnsInHanded {} Try.checked os 4 .any ((Rows.OpenSpec.upto Rows.tagsPagesSpec).pre6 enc Try.prog Try.f4 Rows.tagsPagesUptoRow.domain false) (((Rows.OpenSpec.upto Rows.tagsPagesSpec).at F).post enc Try.prog Try.f4 false true false false) := by
  refine returnsInHanded_of_cond (C := Try.checked) (s := Rows.OpenSpec.upto Rows.tagsPagesSpec) (k := Rows.uptoSmall) rfl own started (by kernel_rfl) Try.func4
    (OpenSpec.witness (enc := enc) (C := Try.checked) (s := Rows.OpenSpec.upto Rows.tagsPagesSpec) (k := Rows.uptoSmall) rfl false ⟨#[], #[.slice none 0 0, .int .i64 0], []⟩ 8 (by kernel_rfl) (by kernel_rfl) (by kernel_rfl)
      (x := ([.nil, .lit (.int .i64 0)], [], [])) (by kernel_rfl) rfl (by kernel_rfl)) ?_
  intro W base args ds gs before hval hW _ hk _
  exact tagsPages_contract H enc W base args ds gs before hval hW hk

theorem tagsPagesUpto_holds : Rows.TagsPagesUptoSaid :=
  OpenClaim.holds_of_cond 4 Try.f4 rfl rfl rfl rfl rfl rfl rfl ⟨rfl, rfl, rfl, rfl, rfl⟩ rfl rfl rfl rfl rfl (by kernel_rfl) Try.func4 (by kernel_rfl)
    (of_decide_eq_true (by kernel_rfl)) (by unfold Func.isWrapper; first | (rw [if_pos (by decide +kernel)]; kernel_rfl) | (rw [if_neg (by decide +kernel)]; exact ⟨rfl, rfl⟩))
    (fun os started H enc _ F => tagsPages_lifted os started H enc F)
end Go.Proofs.Ytieednadbcghjaa

namespace Go.Proofs.Ytieednadbcghjaa
set_option linter.unusedVariables false
open Go.RowKit Go.Lib Go.ChangeShapes Go.WideShapes Go.ChangeAt

theorem tagsnone_walk (x : Wq) (u : Value) (B : List Int) (w : World) (hx : dok x.dg) (hu : Is w u B) (hn : B.length ≤ 1048576) :
    Calls Try.prog 5 #[x.v, u] w fun e w' => e = .returned (.bool true) ∧ Below w.heap.size w w' := tagsnone_any tags_ok tags_nil x u B w hx hu
set_option maxRecDepth 100000 in
theorem tagsNone_contract (H : Type) (enc : TypeId × Value → H) (W : World) (base : Nat) (args : Array Value) (ds gs : List (DataW H)) (before : List MemPlace)
    (hval : ∀ (j : Nat) t v, Try.f5.params[j]? = some t → args[j]? = some v → Value.okWide Try.prog W .any base t v)
    (hW : DataW.Whole enc Try.prog Try.f5.params.toList Rows.tagsNoneSpec.vars false W args.toList ds gs before) (hk : Rows.uptoSmall H (ds ++ gs) = true) :
    Calls Try.prog 5 args W fun e W' => ∃ v, e = .returned v ∧ Rows.tagsNoneSpec.post enc Try.prog Try.f5 false true false false W args v W' := by
  have hW' := hW
  obtain ⟨p, q, hA0, hV, rfl, hfz, hnd⟩ := hW
  have hA : DataW.TrodAll enc Try.prog W 0 (fun _ => true) true Try.f5.params.toList args.toList ds p := hA0
  rw [Try.params5] at hA hval
  obtain ⟨v0, vs0, d0, ds0, p0, q0, hargs, rfl, rfl, t0, r0⟩ := trodAll_cons hA
  obtain ⟨v1, vs1, d1, ds1, p1, q1, rfl, rfl, rfl, t1, r1⟩ := trodAll_cons r0
  obtain ⟨rfl, rfl, rfl⟩ := trodAll_nil r1
  obtain rfl : args = #[v0, v1] := by cases args; simp_all
  obtain ⟨rfl, rfl⟩ := trodVars_none hV
  have hk0 := of_decide_eq_true hk
  simp only [Rows.uptoBulkAll, List.append_nil] at hk0
  obtain ⟨x0, rfl, hg0⟩ := open_wd19 (hval 0 33 v0 rfl rfl) t0
  obtain ⟨a1, len1, cap1, rfl⟩ := okWide_slice Try.underlying34 (hval 1 34 v1 rfl rfl)
  obtain ⟨fuel1, t1⟩ := t1
  obtain ⟨L1, hg1, hf1, hz1⟩ := open_ints t1
  have hz1' : L1.length + 1 ≤ Rows.uptoBulk d1 := hz1
  have hk' := of_decide_eq_true hk
  simp only [Rows.uptoBulkAll, List.append_nil] at hk'
  refine (tagsnone_walk  x0 (.slice a1 len1 cap1) L1 W hg0 hg1 (by omega)).mono fun e W' ⟨he, hb⟩ => ?_
  subst he
  exact ⟨_, rfl, law_post laidOut (by kernel_rfl) rfl Try.underlying4 rfl hW' rfl rfl rfl hb⟩

set_option maxRecDepth 100000 in
theorem tagsNone_lifted (os : Os) (started : os.Started) (H : Type) (enc : TypeId × Value → H) (F : Stop.Interp) :
    ReturnsInHanded {} Try.checked os 5 .any ((Rows.OpenSpec.upto Rows.tagsNoneSpec).pre6 enc Try.prog Try.f5 Rows.tagsNoneUptoRow.domain false) (((Rows.OpenSpec.upto Rows.tagsNoneSpec).at F).post enc Try.prog Try.f5 false true false false) := by
  refine returnsInHanded_of_cond (C := Try.checked) (s := Rows.OpenSpec.upto Rows.tagsNoneSpec) (k := Rows.uptoSmall) rfl own started (by kernel_rfl) Try.func5
    (OpenSpec.witness (enc := enc) (C := Try.checked) (s := Rows.OpenSpec.upto Rows.tagsNoneSpec) (k := Rows.uptoSmall) rfl false ⟨#[], #[.agg #[.int .i64 0, .int .u64 0, .int .u8 0, .int .u8 0, .int .u8 0, .int .u8 0, .int .u8 0, .int .u8 0, .int .u8 0, .int .u8 0, .int .u8 0, .int .u8 0, .int .u8 0, .int .u8 0, .int .u8 0, .int .u8 0, .int .u8 0, .int .u8 0, .int .u8 0, .int .u8 0, .int .u8 0, .int .u8 0, .int .u8 0, .int .u8 0, .int .u8 0, .int .u8 0, .int .u8 0, .int .u8 0, .int .u8 0, .int .u8 0, .int .u8 0, .int .u8 0, .int .u8 0, .int .u8 0, .string ⟨#[]⟩, .int .i64 0, .int .i64 0, .int .i64 0, .int .i64 0], .slice none 0 0], []⟩ 8 (by kernel_rfl) (by kernel_rfl) (by kernel_rfl)
      (x := ([.agg [.lit (.int .i64 0), .lit (.int .u64 0), .agg [.lit (.int .u8 0), .lit (.int .u8 0), .lit (.int .u8 0), .lit (.int .u8 0), .lit (.int .u8 0), .lit (.int .u8 0), .lit (.int .u8 0), .lit (.int .u8 0), .lit (.int .u8 0), .lit (.int .u8 0), .lit (.int .u8 0), .lit (.int .u8 0), .lit (.int .u8 0), .lit (.int .u8 0), .lit (.int .u8 0), .lit (.int .u8 0), .lit (.int .u8 0), .lit (.int .u8 0), .lit (.int .u8 0), .lit (.int .u8 0), .lit (.int .u8 0), .lit (.int .u8 0), .lit (.int .u8 0), .lit (.int .u8 0), .lit (.int .u8 0), .lit (.int .u8 0), .lit (.int .u8 0), .lit (.int .u8 0), .lit (.int .u8 0), .lit (.int .u8 0), .lit (.int .u8 0), .lit (.int .u8 0)], .lit (.string []), .lit (.int .i64 0), .agg [.lit (.int .i64 0), .lit (.int .i64 0), .lit (.int .i64 0)]], .nil], [], [])) (by kernel_rfl) rfl (by kernel_rfl)) ?_
  intro W base args ds gs before hval hW _ hk _
  exact tagsNone_contract H enc W base args ds gs before hval hW hk

theorem tagsNoneUpto_holds : Rows.TagsNoneUptoSaid :=
  OpenClaim.holds_of_cond 5 Try.f5 rfl rfl rfl rfl rfl rfl rfl ⟨rfl, rfl, rfl, rfl, rfl⟩ rfl rfl rfl rfl rfl (by kernel_rfl) Try.func5 (by kernel_rfl)
    (of_decide_eq_true (by kernel_rfl)) (by unfold Func.isWrapper; first | (rw [if_pos (by decide +kernel)]; kernel_rfl) | (rw [if_neg (by decide +kernel)]; exact ⟨rfl, rfl⟩))
    (fun os started H enc _ F => tagsNone_lifted os started H enc F)
end Go.Proofs.Ytieednadbcghjaa

namespace Go.Proofs.Ytieednadbcghjaa
end Go.Proofs.Ytieednadbcghjaa
