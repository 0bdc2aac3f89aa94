/- Layer 15, the reference: Make -/
import Derived.Test.YtcjflabipkppfaaBt17
import Derived.Test.YtcjflabipkppfaaBt23
set_option linter.unusedSimpArgs false
set_option linter.unusedVariables false
namespace Go.Proofs.Ytcjflabipkppfaa
set_option linter.unusedVariables false
open Go.RowKit Go.Lib

theorem framesN_bound {l : List Rc} (h : ∀ r ∈ l, r.Ok) (s : Int) : (framesN l s).length ≤ 65557 * l.length := by
  induction l generalizing s with
  | nil => simp [framesN]
  | cons r l ih =>
    have h1 := ih (fun x hx => h x (by simp [hx])) (s + 1)
    have h2 := makeN_length ((h r (by simp)).num s)
    simp only [framesN, List.length_append, List.length_cons]
    omega
theorem framesN_succ {l : List Rc} {k : Nat} {r : Rc} (hr : l[k]? = some r) (s : Int) : framesN (l.take (k + 1)) s = framesN (l.take k) s ++ makeN (r.num (s + k)) := by
  have hk := (List.getElem?_eq_some_iff.1 hr).1
  have e : l.take (k + 1) = l.take k ++ [r] := by
    rw [List.take_add_one, hr]; rfl
  rw [e, framesN_append, List.length_take, Nat.min_eq_left (by omega)]
  simp [framesN]
/-- a commit, as a record in memory -/
def cmQ (s : Int) (n z : Nat) : Rq := ⟨6, s, dg0, ⟨#[]⟩, none, 0, 0, [], (n : Int), (z : Int)⟩
theorem cmQ_fit {s : Int} {n z : Nat} (hs : 0 ≤ s ∧ s < 18446744073709551616) (hn : n ≤ 140737488355328) (hz : z ≤ 140737488355328) (w : World) : (cmQ s n z).Fit w :=
  ⟨Bs.empty _ _, fun _ => rfl, Nat.le_refl _, Nat.zero_le _, dok_zero, (Nat.zero_le 140737488355328 : (0 : Nat) ≤ 140737488355328), hs, by show _ ≤ (6 : Int) ∧ (6 : Int) ≤ _; omega, by show _ ≤ (n : Int) ∧ (n : Int) ≤ _; omega, by show _ ≤ (z : Int) ∧ (z : Int) ≤ _; omega⟩
theorem cmQ_rc (s : Int) (n z : Nat) : (cmQ s n z).rc = commitN s n z := rfl

set_option maxRecDepth 100000 in
set_option maxHeartbeats 4000000 in
theorem rmake15_any (p : Option Addr) (n c : Nat) (L : List Rx) (s : Int) (w : World) (h : Gs encRc w p n L) (hf : ∀ x ∈ L, x.1.Fit w) (hn : n ≤ 1048576) (hs : 0 ≤ s ∧ s < 18446744073709551616) :
    Calls Try.prog 7 #[.slice p n c, .int .u64 s] w fun e w' => ∃ v, e = .returned (.tuple #[v, .int .u64 (bmS (rcL L) s), .int .i64 (bmE (rcL L) s)]) ∧ Ob w' w.heap.size 5 v (bmB (rcL L) s) ∧ Below w.heap.size w w' := by
  have H := Lib.hid h
  have HF := Lib.hid hf
  have HLR : Hid ((rcL L).length = n) := Lib.hid (by rw [rcL_length, h.len])
  have HOK := Lib.hid (rcL_ok hf)
  have HW := Lib.hid fun V (hV : Below w.heap.size w V) => rwrong_any p n c L V (h.later hV) (fun x hx => (hf x hx).later hV) hn
  have HE : Hid (bmE (rcL L) s = if wrongN (rcL L) ≠ 0 then wrongN (rcL L) else if s + n + 1 > 18446744073709551615 then 20 else 0) := Lib.hid (by unfold bmE; rw [HLR.out])
  have HBB : Hid (bmB (rcL L) s = if bmE (rcL L) s = 0 then batN (rcL L) s else []) := Lib.hid rfl
  have HSS : Hid (bmS (rcL L) s = if bmE (rcL L) s = 0 then s + n + 1 else s) := Lib.hid (by unfold bmS; rw [HLR.out])
  generalize bmE (rcL L) s = E at *
  generalize bmB (rcL L) s = FB at *
  generalize bmS (rcL L) s = NS at *
  obtain ⟨R, hR⟩ : ∃ R, wrongN (rcL L) = R := ⟨_, rfl⟩
  rw [hR] at HW HE
  have hwn : IntKind.u64.wrap (n : Int) = (n : Int) := wrap_u64_in (by omega) (by omega)
  have HWZ := Lib.hid (fun (hz : R = 0) => wrongN_zero (hR.trans hz))
  clear h hf hR
  by_cases hz : R = 0
  · subst hz
    rw [if_neg (by simp)] at HE
    have HNE : Hid (0 < n) := Lib.hid (by
      have h1 := (HWZ.out rfl).1
      rw [← HLR.out]
      exact List.length_pos_iff.2 h1)
    by_cases hov : s + n + 1 > 18446744073709551615
    · rw [if_pos hov] at HE
      obtain ⟨A, hA⟩ : ∃ A, IntKind.u64.wrap (s + (n : Int)) = A := ⟨_, rfl⟩
      obtain ⟨B, hB⟩ : ∃ B, IntKind.u64.wrap (A + 1) = B := ⟨_, rfl⟩
      have hle : B ≤ s := by
        rw [← hB, ← hA]
        simp [IntKind.wrap, IntKind.bits, IntKind.signed]
        omega
      clear hov
      go_enter Try.func7, Try.ntmps7
      go_wp2_with (go_at_call 8; refine (HW.out _ (Below.refl _ _)).mono ?_; rintro e w1 ⟨rfl, hb1⟩; have HB1 := Lib.hid hb1; clear hb1)
      go_ret3
      refine ⟨.slice none 0 0, ?_, by rw [HBB.out, if_neg (by rw [HE.out]; omega)]; exact Ob.nil _ _ _, HB1.out⟩
      rw [HSS.out, if_neg (by rw [HE.out]; omega), HE.out]
      rfl
    · rw [if_neg hov] at HE
      have hA : IntKind.u64.wrap (s + (n : Int)) = s + n := wrap_u64_in (by omega) (by omega)
      have hB : IntKind.u64.wrap (s + (n : Int) + 1) = s + n + 1 := wrap_u64_in (by omega) (by omega)
      have hgt : ¬ (s + (n : Int) + 1 ≤ s) := by omega
      obtain ⟨b, off, rfl, _⟩ := H.out.ptr 0 HNE.out
      go_enter Try.func7, Try.ntmps7
      go_wp2_with (go_at_call 8; refine (HW.out _ (Below.refl _ _)).mono ?_; rintro e w1 ⟨rfl, hb1⟩; have HB1 := Lib.hid hb1; clear hb1)
      go_loopw [7, 8] (fun v i wr => ∃ k : Nat, k ≤ n ∧ i = .int .i64 (k : Int) ∧ Hid (Ob wr w.heap.size 5 v (framesN ((rcL L).take k) s)) ∧ Hid (Below w.heap.size w wr)) (fun _ i _ => n - (intOf i).toNat)
      case atStart => exact ⟨0, by omega, rfl, Lib.hid (by simpa [framesN] using Ob.nil _ _ _), HB1⟩
      case round =>
        obtain ⟨k, hk, rfl, HO, HB⟩ := hrel
        by_cases hlt : k < n
        · obtain ⟨x, hLk, hRk, hxm, _, hrng⟩ := (H.out.later HB.out).recAt k hlt
          have hki : (k : Int) < (n : Int) := by omega
          have hwk : IntKind.u64.wrap (k : Int) = (k : Int) := wrap_u64_in (by omega) (by omega)
          have hsk : IntKind.u64.wrap (s + (k : Int)) = s + k := wrap_u64_in (by omega) (by omega)
          have HRG := Lib.hid (rec_load hrng)
          have HFX := Lib.hid fun V (hV : Below w.heap.size w V) => (HF.out x hxm).later hV
          have HFS := Lib.hid (framesN_succ hRk s)
          have HLB : Hid ((framesN ((rcL L).take k) s).length ≤ 65557 * 1048576) := Lib.hid (by
            have h1 := framesN_bound (l := (rcL L).take k) (fun r hr => HOK.out r (List.mem_of_mem_take hr)) s
            rw [List.length_take, HLR.out] at h1
            have : min k n = k := Nat.min_eq_left (by omega)
            rw [this] at h1
            omega)
          have HXD := Lib.hid x.2
          obtain ⟨g, hg⟩ : ∃ g, wr.heap.size = g := ⟨_, rfl⟩
          have HGW : Hid (w.heap.size ≤ g) := Lib.hid (by rw [← hg]; exact HB.out.size)
          have HNW : Hid (∀ Z : Obj, (wr.alloc Z).heap[g]? = some Z) := Lib.hid fun Z => by rw [← hg]; exact heap_alloc_new _ _
          have HSG := Lib.hid hg
          clear hrng hLk hRk
          go_upto_region 10 with (first
            | (refine wpList_ld rfl _ _ rfl _ rfl _ HRG.out ?_)
            | (refine wpList_store_row rfl 42 _ _ rfl g _ rfl rfl 42 _ (HNW.out _) (Rq.sizeOf x.1 HXD.out) (Rq.sizes rq0 x.1 rfl HXD.out) x.1.one ?_; generalize hw2 : World.setRow _ _ _ = w2))
          have HR2 : Hid (Rm w2 g x.1) := Lib.hid (by rw [← hw2]; exact Mx.row (show Rm (wr.alloc (.cells (mixC rq0.a rq0.dg rq0.z) 42)) g rq0 from HNW.out _))
          have HB2 : Hid (Below w.heap.size w w2) := Lib.hid (by rw [← hw2]; exact below_setRow8 (HB.out.alloc HB.out.size _) _ _ HGW.out)
          have HBG : Hid (Below wr.heap.size wr w2) := Lib.hid (by rw [← hw2]; exact below_setRow8 ((Below.refl _ _).alloc (Nat.le_refl _) _) _ _ (by rw [HSG.out]; exact Nat.le_refl _))
          have cl1 := (HR2.out.cells HXD.out).2.1
          have fr1 := Mx.frozen HR2.out 1
          obtain ⟨w3, hw3⟩ : ∃ W, w2.setCell ⟨g, 1, none⟩ (.int .u64 (s + k)) = W := ⟨_, rfl⟩
          obtain ⟨X, hX⟩ : ∃ X, { x.1 with s := s + k } = X := ⟨_, rfl⟩
          have HX := Lib.hid hX
          have HXD2 : Hid (X.dg.length = 32) := Lib.hid (by rw [← hX]; exact HXD.out)
          have HR3 : Hid (Rm w3 g X) := Lib.hid (by rw [← hw3, ← hX]; exact HR2.out.setS _)
          have HB3 : Hid (Below w.heap.size w w3) := Lib.hid (by rw [← hw3]; exact HB2.out.setCell (p := ⟨g, 1, none⟩) HGW.out _)
          have HBG3 : Hid (Below wr.heap.size wr w3) := Lib.hid (by rw [← hw3]; exact HBG.out.setCell (p := ⟨g, 1, none⟩) (by rw [HSG.out]; exact Nat.le_refl _) _)
          have HFT : Hid (X.Fit w3) := Lib.hid (by
            have h1 := HFX.out _ HB3.out
            rw [← hX]
            exact ⟨h1.bs, h1.pc, h1.nc, h1.cm, h1.dg, h1.nm, by show 0 ≤ s + (k : Int) ∧ s + (k : Int) < _; omega, h1.k, h1.N, h1.Z⟩)
          have HRC : Hid (X.rc = x.1.rc.num (s + k)) := Lib.hid (by rw [← hX]; rfl)
          have HML : Hid ((makeN X.rc).length ≤ 65557) := Lib.hid (makeN_length HFT.out.ok)
          have HMK := Lib.hid (rmake14_any X w3 HFT.out)
          rw [← HRC.out] at HFS
          unfold Rq.v at HMK
          obtain ⟨F, hF⟩ : ∃ F, makeN X.rc = F := ⟨_, rfl⟩
          rw [hF] at HMK HML HFS
          obtain ⟨FN, hFN⟩ : ∃ m, F.length = m := ⟨_, rfl⟩
          have HFN := Lib.hid hFN
          rw [hFN] at HML
          have hml := HML.out
          obtain ⟨G, hG⟩ : ∃ G, framesN ((rcL L).take k) s = G := ⟨_, rfl⟩
          rw [hG] at HO HFS HLB
          clear hX hw2 hF hFN hG
          go_wp2_with (first
            | (refine wpList_ld rfl _ _ rfl _ rfl _ (HR3.out.load HXD2.out) ?_)
            | (go_at_call 20; refine HMK.out.mono ?_; rintro e w4 ⟨v4, rfl, ho4, hb4⟩; have HB4 := Lib.hid (below_step HB3.out hb4); have HO4 := Lib.hid (HO.out.later (below_step HBG3.out hb4)); obtain ⟨p4, c4, hv4, hlc4, hcm4, hbs4, hpc4⟩ := ho4.open; rw [HFN.out] at hv4 hlc4 hbs4; subst hv4; have HD4 := Lib.hid hbs4; have HP4 := Lib.hid hpc4; clear ho4 hb4 hbs4 hpc4 hlc4 hcm4)
            | (refine wpList_append_bytes rfl _ _ 24 5 rfl Try.underlying24 info8 w.heap.size _ G rfl HO4.out p4 FN c4 F rfl HD4.out HP4.out (by have := HLB.out; omega) HB4.out.size ?_; intro v5 w5 ho5 hg5; have HB5 := Lib.hid (below_new HB4.out HO4.out hg5 HB4.out.size); rw [← HFS.out] at ho5; have HO5 := Lib.hid ho5; clear ho5 hg5))
          exact ⟨⟨k + 1, by omega, by go_num, HO5, HB5⟩, by simp [intOf] <;> omega⟩
        · obtain rfl : k = n := by omega
          rw [show (rcL L).take k = rcL L from List.take_of_length_le (by rw [HLR.out]; exact Nat.le_refl _)] at HO
          have HLB : Hid ((framesN (rcL L) s).length ≤ 65557 * 1048576) := Lib.hid (by
            have h1 := framesN_bound (l := rcL L) HOK.out s
            rw [HLR.out] at h1
            omega)
          have HBT : Hid (batN (rcL L) s = framesN (rcL L) s ++ makeN (cmQ (s + k) k (framesN (rcL L) s).length).rc) := Lib.hid (by rw [cmQ_rc]; unfold batN; rw [HLR.out])
          obtain ⟨G, hG⟩ : ∃ G, framesN (rcL L) s = G := ⟨_, rfl⟩
          rw [hG] at HO HLB HBT
          obtain ⟨GN, hGN⟩ : ∃ m, G.length = m := ⟨_, rfl⟩
          have HGN := Lib.hid hGN
          rw [hGN] at HLB HBT
          obtain ⟨p1, c1, hv1, hlc1, hcm1, hbs1, hpc1⟩ := HO.out.open
          rw [hGN] at hv1 hlc1 hbs1
          subst hv1
          have hgn := HLB.out
          obtain ⟨X, hX⟩ : ∃ X, cmQ (s + k) k GN = X := ⟨_, rfl⟩
          have HX := Lib.hid hX
          have HFT : Hid (∀ W, X.Fit W) := Lib.hid fun W => by rw [← hX]; exact cmQ_fit (by omega) (by omega) (by omega) W
          have HMK := Lib.hid (rmake14_any X wr (HFT.out wr))
          rw [hX] at HBT
          have HML : Hid ((makeN X.rc).length ≤ 65557) := Lib.hid (makeN_length (HFT.out wr).ok)
          unfold Rq.v at HMK
          rw [← hX] at HMK
          obtain ⟨F, hF⟩ : ∃ F, makeN X.rc = F := ⟨_, rfl⟩
          rw [hF] at HML HBT
          rw [hX] at HMK
          rw [hF] at HMK
          obtain ⟨FN, hFN⟩ : ∃ m, F.length = m := ⟨_, rfl⟩
          have HFN := Lib.hid hFN
          rw [hFN] at HML
          have hml := HML.out
          clear hF hFN hG hGN hbs1 hpc1 hlc1 hcm1 hlt
          rw [← hX] at HMK
          clear hX
          go_wp2_with (first
            | (refine wpList_build_is rfl 42 _ rfl (mixC (cmQ (s + k) k GN).a (cmQ (s + k) k GN).dg (cmQ (s + k) k GN).z) ?_ ?_; kernel_rfl)
            | (go_at_call 20; refine HMK.out.mono ?_; rintro e w4 ⟨v4, rfl, ho4, hb4⟩; have HB4 := Lib.hid (below_step HB.out hb4); have HO4 := Lib.hid (HO.out.later hb4); obtain ⟨p4, c4, hv4, hlc4, hcm4, hbs4, hpc4⟩ := ho4.open; rw [HFN.out] at hv4 hlc4 hbs4; subst hv4; have HD4 := Lib.hid hbs4; have HP4 := Lib.hid hpc4; clear ho4 hb4 hbs4 hpc4 hlc4 hcm4)
            | (refine wpList_append_bytes rfl _ _ 24 5 rfl Try.underlying24 info8 w.heap.size _ G rfl HO4.out p4 FN c4 F rfl HD4.out HP4.out (by have := HLB.out; have := HGN.out; omega) HB4.out.size ?_; intro v5 w5 ho5 hg5; have HB5 := Lib.hid (below_new HB4.out HO4.out hg5 HB4.out.size); rw [← HBT.out] at ho5; have HO5 := Lib.hid ho5; clear ho5 hg5))
          go_ret3
          refine ⟨_, ?_, by rw [HBB.out, if_pos HE.out]; exact HO5.out, HB5.out⟩
          rw [HSS.out, if_pos HE.out, HE.out]
          rfl
  · rw [if_pos hz] at HE
    have hne : (R != 0) = true := by simpa using hz
    go_enter Try.func7, Try.ntmps7
    go_wp2_with (first
      | (go_at_call 8; (fail_if_success (have hh := HB1.out)); refine (HW.out _ (Below.refl _ _)).mono ?_; rintro e w1 ⟨rfl, hb1⟩; have HB1 := Lib.hid hb1; clear hb1)
      | (go_at_call 8; refine (HW.out _ HB1.out).mono ?_; rintro e w2 ⟨rfl, hb2⟩; have HB2 := Lib.hid (below_step HB1.out hb2); clear hb2))
    go_ret3
    refine ⟨.slice none 0 0, ?_, by rw [HBB.out, if_neg (by rw [HE.out]; exact hz)]; exact Ob.nil _ _ _, HB2.out⟩
    rw [HSS.out, if_neg (by rw [HE.out]; exact hz), HE.out]
    rfl
end Go.Proofs.Ytcjflabipkppfaa
