/- Layer 15, the program: Make -/
import Derived.Test.YtcjflabipkppfaaBt35
import Derived.Test.YtcjflabipkppfaaBt37
import Derived.Test.YtcjflabipkppfaaBt40
set_option linter.unusedSimpArgs false
set_option linter.unusedVariables false
namespace Go.Proofs.Ytcjflabipkppfaa
set_option linter.unusedVariables false
open Go.RowKit Go.Lib

/-- a row outlives what is done to a row of another type -/
theorem Gw.besideOb {α : Type} {E : Ec α} {w w' : World} {B B2 : Nat} {v u : Value} {L : List α} {t : TypeId} {zs : List Int} (h : Gw E w B v L) (ht : E.t ≠ t) (ho : Ob w B2 t u zs) (hg : w.grownBy w' u.ownBlock) : Gw E w' B v L := by
  refine h.kept hg fun b hb e => ?_
  rcases h.2 with ⟨rfl, _⟩ | ⟨g, c, cur, rfl, _, hg1, _⟩
  · simp [Value.ownBlock] at hb
  · simp only [Value.ownBlock, Option.some.injEq] at hb
    subst hb
    rcases ho.2.2 with ⟨rfl, _⟩ | ⟨g2, c2, cur2, rfl, _, hg2, _⟩
    · simp [Value.ownBlock] at e
    · simp only [Value.ownBlock, Option.some.injEq] at e
      subst e
      rw [hg1] at hg2
      simp only [Option.some.injEq, Obj.cells.injEq] at hg2
      exact ht hg2.2.1
theorem rc_not8 : encRc.t ≠ 5 := by decide
theorem framesN_commit {l : List Rc} {z : Nat} (hz : (framesN l 0).length = z) (s : Int) : framesN (l ++ [commitN 0 l.length z]) s = batN l s := by
  rw [framesN_append]
  unfold batN
  rw [framesN_length l s 0, hz]
  congr 1
  simp only [framesN, List.append_nil]
  rfl
theorem rcL_append (L M : List Rx) : rcL (L ++ M) = rcL L ++ rcL M := List.map_append

set_option maxRecDepth 100000 in
set_option maxHeartbeats 8000000 in
theorem cbmake_ok : cbMakeOk := by
  intro p n c L s w h hpc hnc hf hn hz hs
  have hl : (rcL L).length = n := by rw [rcL_length, h.len]
  have H := Lib.hid h
  have HF := Lib.hid hf
  have HPC := Lib.hid hpc
  have HLL := Lib.hid h.len
  have HLR := Lib.hid hl
  have HC := Lib.hid (commitOf_any p n c L w h hf hn hz)
  have HFT := Lib.hid fun W => cofQ_fit (l := rcL L) W (by rw [hl]; exact hn) hz
  have HLN := Lib.hid fun W => length_any (cofQ (rcL L)) W (HFT.out W) (by rw [cofQ_n]; exact Nat.zero_le _) (cofQ_Z hz)
  have HLE := Lib.hid fun h0 => cofQ_len (l := rcL L) h0
  have HCN := Lib.hid (cofQ_n (rcL L))
  have HE : Hid (bmE (rcL L) s = if wrongN (rcL L) ≠ 0 then wrongN (rcL L) else if s + n + 1 > 18446744073709551615 then 20 else 0) := Lib.hid (by unfold bmE; rw [hl])
  have HBB : Hid (bmB (rcL L) s = if bmE (rcL L) s = 0 then batN (rcL L) s else []) := Lib.hid rfl
  have HSS : Hid (bmS (rcL L) s = if bmE (rcL L) s = 0 then s + n + 1 else s) := Lib.hid (by unfold bmS; rw [hl])
  have HCQ : Hid (cofQ (rcL L) = if wrongN (rcL L) = 0 then cmQ 0 n (framesN (rcL L) 0).length else rq0) := Lib.hid (by unfold cofQ; rw [hl])
  have HBL : Hid ((batN (rcL L) 0).length ≤ 2097152 + 65557) := Lib.hid (by
    have h1 := makeN_length (commitN_ok (0 + (rcL L).length) (rcL L).length (framesN (rcL L) 0).length)
    unfold batN
    rw [List.length_append]
    omega)
  have HFC := Lib.hid fun z (h0 : (framesN (rcL L) 0).length = z) => framesN_commit h0 s
  have HOK := Lib.hid (rcL_ok fun x hx => (hf x hx).1)
  generalize bmE (rcL L) s = E at *
  generalize bmB (rcL L) s = FB at *
  generalize bmS (rcL L) s = NS at *
  obtain ⟨C, hC⟩ : ∃ C, cofQ (rcL L) = C := ⟨_, rfl⟩
  rw [hC] at HC HFT HLN HLE HCN HCQ
  unfold Rq.v at HC
  have HCD : Hid (C.dg.length = 32) := Lib.hid (HFT.out default).dg.1
  obtain ⟨R, hR⟩ : ∃ R, wrongN (rcL L) = R := ⟨_, rfl⟩
  rw [hR] at HC HLE HE HCQ
  obtain ⟨SZ, hSZ⟩ : ∃ S, C.Z + ((makeN C.rc).length : Int) = S := ⟨_, rfl⟩
  rw [hSZ] at HLN HLE
  have hwn : IntKind.u64.wrap (n : Int) = (n : Int) := wrap_u64_in (by omega) (by omega)
  obtain ⟨A, hA⟩ : ∃ A, IntKind.u64.wrap (18446744073709551615 - s) = A := ⟨_, rfl⟩
  have HAE : Hid (A = 18446744073709551615 - s) := Lib.hid (by rw [← hA]; exact wrap_u64_in (by omega) (by omega))
  clear h hpc hnc hf hz hl hC hR hSZ
  go_enter Try.func6, Try.ntmps6
  go_upto_region 2 with (first
    | (go_at_call 16; refine HC.out.mono ?_; rintro e w1 ⟨rfl, hb1⟩; have HB1 := Lib.hid hb1; clear hb1)
    | (refine wpList_store_row rfl 42 _ _ rfl w1.heap.size _ rfl rfl 42 _ (heap_alloc_new _ _) (Rq.sizeOf C HCD.out) (Rq.sizes rq0 C rfl HCD.out) C.one ?_; generalize hw2 : World.setRow _ _ _ = w2))
  have HR2 : Hid (Rm w2 w1.heap.size C) := Lib.hid (by rw [← hw2]; exact Mx.row (show Rm (w1.alloc (.cells (mixC rq0.a rq0.dg rq0.z) 42)) w1.heap.size rq0 from heap_alloc_new _ _))
  have HB12 : Hid (Below w1.heap.size w1 w2) := Lib.hid (by rw [← hw2]; exact below_setRow8 ((Below.refl _ _).alloc (Nat.le_refl _) _) _ _ (Nat.le_refl _))
  have HB2 : Hid (Below w.heap.size w w2) := Lib.hid (below_step HB1.out HB12.out)
  clear hw2
  by_cases hr : R = 0
  · subst hr
    rw [if_pos rfl] at HCQ
    rw [if_neg (by simp)] at HE
    by_cases hov : s + n + 1 > 18446744073709551615
    · rw [if_pos hov] at HE
      have hge : (n : Int) ≥ A := by rw [HAE.out]; omega
      have d1 : decide ((n : Int) ≥ A) = true := decide_eq_true hge
      have d2 : decide (A ≤ (n : Int)) = true := decide_eq_true hge
      clear hov
      go_wp2
      go_ret3
      refine ⟨.slice none 0 0, ?_, by rw [HBB.out, if_neg (by rw [HE.out]; omega)]; exact Ob.nil _ _ _, HB2.out⟩
      rw [HSS.out, if_neg (by rw [HE.out]; omega), HE.out]
      rfl
    · rw [if_neg hov] at HE
      have hge : ¬ ((n : Int) ≥ A) := by rw [HAE.out]; omega
      have d1 : decide ((n : Int) ≥ A) = false := decide_eq_false hge
      have d2 : decide (A ≤ (n : Int)) = false := decide_eq_false hge
      obtain ⟨z, hz⟩ : ∃ z, (framesN (rcL L) 0).length = z := ⟨_, rfl⟩
      rw [hz] at HCQ
      have HFZ := Lib.hid (HFC.out z hz)
      rw [HLR.out] at HFZ
      have HSE := HLE.out (by first | rfl | trivial)
      obtain ⟨SN, hSN⟩ : ∃ m, (batN (rcL L) 0).length = m := ⟨_, rfl⟩
      rw [hSN] at HSE HBL
      rw [HSE] at HLN
      have hsn := HBL.out
      have HXC : Hid (rcL [(⟨C, HCD.out⟩ : Rx)] = [commitN 0 n z]) := Lib.hid (by show [C.rc] = _; rw [HCQ.out, cmQ_rc])
      obtain ⟨Cx, hCx⟩ : ∃ x : Rx, (⟨C, HCD.out⟩ : Rx) = x := ⟨_, rfl⟩
      have HCX : Hid (Cx.1 = C) := Lib.hid (by rw [← hCx])
      rw [hCx] at HXC
      obtain ⟨N1, hN1⟩ : ∃ m, n + 1 = m := ⟨_, rfl⟩
      have HN1 := Lib.hid hN1
      clear hz hSN HSE hCx hN1
      go_upto_region 7 with (first
        | (refine wpList_ld rfl _ _ rfl _ rfl _ (HR2.out.load HCD.out) ?_)
        | (go_at_call 17; refine (HLN.out _).mono ?_; rintro e w3 ⟨rfl, hb3⟩; have HB3 := Lib.hid (below_step HB2.out hb3); have HR3 := Lib.hid (HR2.out.later hb3); clear hb3)
        | (refine wpList_make_bytes _ rfl _ _ 24 5 rfl Try.underlying24 info8 .i64 .i64 _ _ 0 SN rfl rfl rfl rfl (Nat.zero_le _) (by omega) ?_; intro w4 hob4 hg4; have hb4 := below_none hg4; have HB4 := Lib.hid (below_step HB3.out hb4); have HO4 : Hid (Ob w4 w.heap.size 5 (.slice (some ⟨w3.heap.size, 0, none⟩) 0 SN) []) := Lib.hid (hob4.mono HB3.out.size); have HR4 := Lib.hid (HR3.out.later hb4); clear hb4 hob4 hg4))
      obtain ⟨w5, hw5⟩ : ∃ W, w4.alloc (.cells (mixC C.a C.dg C.z) 42) = W := ⟨_, rfl⟩
      have HW5 := Lib.hid hw5
      have HB45 : Hid (Below w4.heap.size w4 w5) := Lib.hid (by rw [← hw5]; exact (Below.refl _ _).alloc (Nat.le_refl _) _)
      have HG5 : Hid (Gs encRc w5 (some ⟨w4.heap.size, 0, none⟩) 1 [Cx]) := Lib.hid (by
        have h1 := Gs.oneRec w4 Cx
        rw [HCX.out, hw5] at h1
        exact h1)
      obtain ⟨w6, hw6⟩ : ∃ W, w5.alloc (.cells #[.slice p n c, .slice (some ⟨w4.heap.size, 0, none⟩) 1 1] 22) = W := ⟨_, rfl⟩
      have HW6 := Lib.hid hw6
      have HB56 : Hid (Below w5.heap.size w5 w6) := Lib.hid (by rw [← hw6]; exact (Below.refl _ _).alloc (Nat.le_refl _) _)
      have HB46 := Lib.hid (below_step HB45.out HB56.out)
      have HB6 := Lib.hid (below_step HB4.out HB46.out)
      have HO6 := Lib.hid (HO4.out.later HB46.out)
      have HQ6 : Hid (w6.heap[w5.heap.size]? = some (.cells #[.slice p n c, .slice (some ⟨w4.heap.size, 0, none⟩) 1 1] 22 (0, 0))) := Lib.hid (by rw [← hw6]; exact heap_alloc_new _ _)
      have HCN6 := Lib.hid (sconcat_any w5.heap.size p n c L (some ⟨w4.heap.size, 0, none⟩) 1 1 [Cx] w6 (cell_of_row w6 w5.heap.size 0 _ _ _ HQ6.out) (cell_of_row w6 w5.heap.size 1 _ _ _ HQ6.out) (H.out.later HB6.out) HPC.out (HG5.out.later HB56.out) (fun h => by cases h) (by omega) (by omega))
      clear hw5 hw6
      go_upto_region 8 with (first
        | (refine wpList_ld rfl _ _ rfl _ rfl _ (HR4.out.load HCD.out) ?_)
        | (refine wpList_build_rec rfl _ _ rfl Try.underlying22 Cx (by rw [HCX.out]; rfl) ?_; rw [HCX.out, HW5.out])
        | (refine wpList_build_two rfl _ _ _ rfl Try.underlying66 p n c (some ⟨w4.heap.size, 0, none⟩) 1 1 rfl rfl ?_; rw [HW6.out])
        | (go_at_call 18; refine HCN6.out.mono ?_; rintro e w7 ⟨v7, rfl, ho7, hb7⟩; have HB67 := Lib.hid hb7; have HB7 := Lib.hid (below_step HB6.out hb7); have HO7 := Lib.hid (HO6.out.later hb7); obtain ⟨p7, c7, hv7, _, _, _, _⟩ := ho7.open; have hnl : (L ++ [Cx]).length = N1 := (by rw [List.length_append, HLL.out, ← HN1.out]; rfl); rw [hnl] at hv7; subst hv7; have HG7 := Lib.hid ho7; clear ho7 hb7 hnl))
      obtain ⟨g7, rfl⟩ := HG7.out.ptr (by have := HN1.out; omega)
      have HLC : Hid ((L ++ [Cx]).length = N1) := Lib.hid (by rw [List.length_append, HLL.out, ← HN1.out]; rfl)
      have HRL : Hid (rcL (L ++ [Cx]) = rcL L ++ [commitN 0 n z]) := Lib.hid (by rw [rcL_append, HXC.out])
      rw [← HRL.out] at HFZ
      have HFX := Lib.hid fun x (hx : x ∈ L ++ [Cx]) => (show ∀ V, Below w.heap.size w V → x.1.Fit V ∧ x.1.n ≤ 1048576 from fun V hV => by
        rcases List.mem_append.1 hx with h1 | h1
        · exact ⟨(HF.out x h1).1.later hV, (HF.out x h1).2⟩
        · rw [List.mem_singleton] at h1
          subst h1
          rw [HCX.out]
          exact ⟨HFT.out V, by rw [HCN.out]; exact Nat.zero_le _⟩)
      have HOC := Lib.hid (rcL_ok (L := L ++ [Cx]) (w := w) fun x hx => (HFX.out x hx w (Below.refl _ _)).1)
      have HLR1 : Hid ((rcL (L ++ [Cx])).length = N1) := Lib.hid (by rw [rcL_length]; exact HLC.out)
      obtain ⟨LC, hLC⟩ : ∃ l, L ++ [Cx] = l := ⟨_, rfl⟩
      rw [hLC] at HG7 HLC HFZ HFX HOC HLR1
      have hN1 : N1 = n + 1 := HN1.out.symm
      have hNi : (N1 : Int) = (n : Int) + 1 := by omega
      have HNI := Lib.hid (And.intro hN1 hNi)
      have hN1b : N1 ≤ 1048577 := by omega
      clear hLC hN1 hNi HRL HXC HCX HCN6 HQ6 HW5 HW6
      go_loopw [1, 9, 39] (fun sq v i wr => ∃ k : Nat, k ≤ N1 ∧ i = .int .i64 (k : Int) ∧ sq = .int .u64 (s + (k : Int)) ∧ Hid (Ob wr w.heap.size 5 v (framesN ((rcL LC).take k) s)) ∧ Hid (Gw encRc wr w6.heap.size (.slice (some ⟨g7, 0, none⟩) N1 c7) LC) ∧ Hid (Below w.heap.size w wr)) (fun _ _ i _ => N1 - (intOf i).toNat)
      case atStart => exact ⟨0, by omega, rfl, by simp, Lib.hid (by simpa [framesN] using HO7.out), HG7, HB7⟩
      case round =>
        obtain ⟨k, hk, rfl, rfl, HO, HG, HB⟩ := hrel
        by_cases hlt : k < N1
        · as_aux_lemma =>
          obtain ⟨x, hLk, hRk, hxm, _, hrng⟩ := HG.out.gs.recAt k hlt
          rw [Nat.zero_add] at hrng
          have hki : (k : Int) < (N1 : Int) := by omega
          have HKN := Lib.hid hlt
          have hsk : IntKind.u64.wrap (s + (k : Int) + 1) = s + (k : Int) + 1 := wrap_u64_in (by omega) (by have := HNI.out.2; omega)
          have hskb : 0 ≤ s + (k : Int) ∧ s + (k : Int) < 18446744073709551616 := ⟨by omega, by have := HNI.out.2; omega⟩
          have HSK := Lib.hid hskb
          have HRG := Lib.hid (rec_load hrng)
          have HFV := HFX.out x hxm
          have HFXX := Lib.hid fun V hV => (HFV V hV).1
          have HXN := Lib.hid (HFV w (Below.refl _ _)).2
          have HFS := Lib.hid (framesN_succ hRk s)
          have HLB : Hid ((framesN ((rcL LC).take k) s).length ≤ 65557 * 1048577) := Lib.hid (by
            have h1 := framesN_bound (l := (rcL LC).take k) (fun r hr => HOC.out r (List.mem_of_mem_take hr)) s
            rw [List.length_take, HLR1.out] at h1
            have : min k N1 = k := Nat.min_eq_left (by omega)
            rw [this] at h1
            have := HNI.out.1
            omega)
          have HXD := Lib.hid x.2
          obtain ⟨g, hg⟩ : ∃ g, wr.heap.size = g := ⟨_, rfl⟩
          have HGW : Hid (w.heap.size ≤ g) := Lib.hid (by rw [← hg]; exact HB.out.size)
          have HNW : Hid (∀ Z : Obj, (wr.alloc Z).heap[g]? = some Z) := Lib.hid fun Z => by rw [← hg]; exact heap_alloc_new _ _
          have HSG := Lib.hid hg
          clear hrng hLk hRk hskb HFV
          go_upto_region 10 with (first
            | (refine wpList_ld rfl _ _ rfl _ rfl _ HRG.out ?_)
            | (refine wpList_store_row rfl 42 _ _ rfl g _ rfl rfl 42 _ (HNW.out _) (Rq.sizeOf x.1 HXD.out) (Rq.sizes rq0 x.1 rfl HXD.out) x.1.one ?_; generalize hw2 : World.setRow _ _ _ = w8))
          as_aux_lemma =>
            have HR2 : Hid (Rm w8 g x.1) := Lib.hid (by rw [← hw2]; exact Mx.row (show Rm (wr.alloc (.cells (mixC rq0.a rq0.dg rq0.z) 42)) g rq0 from HNW.out _))
            have HB2 : Hid (Below w.heap.size w w8) := Lib.hid (by rw [← hw2]; exact below_setRow8 (HB.out.alloc HB.out.size _) _ _ HGW.out)
            have HBG : Hid (Below wr.heap.size wr w8) := Lib.hid (by rw [← hw2]; exact below_setRow8 ((Below.refl _ _).alloc (Nat.le_refl _) _) _ _ (by rw [HSG.out]; exact Nat.le_refl _))
            have cl1 := (HR2.out.cells HXD.out).2.1
            have fr1 := Mx.frozen HR2.out 1
            obtain ⟨w9, hw9⟩ : ∃ W, w8.setCell ⟨g, 1, none⟩ (.int .u64 (s + (k : Int))) = W := ⟨_, rfl⟩
            obtain ⟨X, hX⟩ : ∃ X, { x.1 with s := s + (k : Int) } = X := ⟨_, rfl⟩
            have HX := Lib.hid hX
            have HXD2 : Hid (X.dg.length = 32) := Lib.hid (by rw [← hX]; exact HXD.out)
            have HR3 : Hid (Rm w9 g X) := Lib.hid (by rw [← hw9, ← hX]; exact HR2.out.setS _)
            have HB3 : Hid (Below w.heap.size w w9) := Lib.hid (by rw [← hw9]; exact HB2.out.setCell (p := ⟨g, 1, none⟩) HGW.out _)
            have HBG3 : Hid (Below wr.heap.size wr w9) := Lib.hid (by rw [← hw9]; exact HBG.out.setCell (p := ⟨g, 1, none⟩) (by rw [HSG.out]; exact Nat.le_refl _) _)
            have HFT2 : Hid (X.Fit w9) := Lib.hid (by
              have h1 := HFXX.out _ HB3.out
              rw [← hX]
              exact ⟨h1.bs, h1.pc, h1.nc, h1.cm, h1.dg, h1.nm, HSK.out, h1.k, h1.N, h1.Z⟩)
            have HXN2 : Hid (X.n ≤ 2097152) := Lib.hid (by rw [← hX]; show x.1.n ≤ _; have := HXN.out; omega)
            have HRC : Hid (X.rc = x.1.rc.num (s + (k : Int))) := Lib.hid (by rw [← hX]; rfl)
            have HML : Hid ((makeN X.rc).length ≤ 65557) := Lib.hid (makeN_length HFT2.out.ok)
            have HMK := Lib.hid (cmake_ok X w9 HFT2.out HXN2.out)
            rw [← HRC.out] at HFS
            unfold Rq.v at HMK
            obtain ⟨F, hF⟩ : ∃ F, makeN X.rc = F := ⟨_, rfl⟩
            rw [hF] at HMK HML HFS
            obtain ⟨FN, hFN⟩ : ∃ m, F.length = m := ⟨_, rfl⟩
            have HFN := Lib.hid hFN
            rw [hFN] at HML
            have hml := HML.out
            obtain ⟨G, hG⟩ : ∃ G, framesN ((rcL LC).take k) s = G := ⟨_, rfl⟩
            rw [hG] at HO HFS HLB
            clear hX hw2 hF hFN hG
            go_upto_region 11 with fail
            try rw [hw9]
            clear cl1 fr1 hw9
            as_aux_lemma =>
              go_wp2_with (first
                | (refine wpList_ld rfl _ _ rfl _ rfl _ (HR3.out.load HXD2.out) ?_)
                | (go_at_call 19; refine HMK.out.mono ?_; rintro e w4 ⟨v4, rfl, ho4, hb4⟩; have HBK := Lib.hid (below_step HBG3.out hb4); have HB4 := Lib.hid (below_step HB3.out hb4); have HO4 := Lib.hid (HO.out.later HBK.out); have HG4 := Lib.hid (HG.out.later HBK.out); obtain ⟨p4, c4, hv4, hlc4, hcm4, hbs4, hpc4⟩ := ho4.open; rw [HFN.out] at hv4 hlc4 hbs4; subst hv4; have HD4 := Lib.hid hbs4; have HP4 := Lib.hid hpc4; clear ho4 hb4 hbs4 hpc4 hlc4 hcm4)
                | (refine wpList_append_bytes rfl _ _ 24 5 rfl Try.underlying24 info8 w.heap.size _ G rfl HO4.out p4 FN c4 F rfl HD4.out HP4.out (by have := HLB.out; omega) HB4.out.size ?_; intro v5 w5 ho5 hg5; have HB5 := Lib.hid (below_new HB4.out HO4.out hg5 HB4.out.size); have HG5 := Lib.hid (HG4.out.besideOb rc_not8 HO4.out hg5); rw [← HFS.out] at ho5; have HO5 := Lib.hid ho5; clear ho5 hg5))
              have hkn := HKN.out
              exact ⟨⟨k + 1, by omega, by go_num, by go_num, HO5, HG5, HB5⟩, by simp [intOf] <;> omega⟩
        · as_aux_lemma =>
          obtain rfl : k = N1 := by omega
          rw [show (rcL LC).take k = rcL LC from List.take_of_length_le (by rw [HLR1.out]; exact Nat.le_refl _), HFZ.out] at HO
          go_wp2
          go_ret3
          refine ⟨_, ?_, by rw [HBB.out, if_pos HE.out]; exact HO.out, HB.out⟩
          rw [HSS.out, if_pos HE.out, HE.out, Int.add_assoc, ← HNI.out.2]
          rfl
  · rw [if_pos hr] at HE
    have hne : (R != 0) = true := by simpa using hr
    go_wp2
    go_ret3
    refine ⟨.slice none 0 0, ?_, by rw [HBB.out, if_neg (by rw [HE.out]; exact hr)]; exact Ob.nil _ _ _, HB2.out⟩
    rw [HSS.out, if_neg (by rw [HE.out]; exact hr), HE.out]
    rfl
end Go.Proofs.Ytcjflabipkppfaa
