/- The statement FrameMakes of layer 13, where what comes in is of bulk at most 1048576: Make's bytes are the reference's, and of a kind from 1 to 8 Parse finds that frame in them, whatever stands ahead and behind; the law returns true. -/
import Derived.Test.YtfpelocemceffaaFraO
import Derived.Deep.DeepCutAuto
namespace Go.Proofs.Ytfpelocemceffaa
set_option linter.unusedVariables false
open Go.RowKit Go.Lib Go.ChangeShapes Go.WideShapes Go.ChangeAt

theorem Bs.storedN {w w' : World} {g : Nat} (hg : ∀ j z, w.cell? ⟨g, j, none⟩ ≠ some (.int .u8 z)) (hk : ∀ k, k ≠ g → w'.heap[k]? = w.heap[k]?) {p : Option Addr} {n : Nat} {zs : List Int} (h : Bs w p n zs) : Bs w' p n zs := by
  obtain ⟨h1, h2, h3⟩ := h
  refine ⟨h1, h2, ?_⟩
  rcases h3 with h0 | ⟨b, off, hp, hc⟩
  · exact Or.inl h0
  · refine Or.inr ⟨b, off, hp, fun j hj => ?_⟩
    have hx := hc j hj
    have hb : b ≠ g := fun e => by subst e; exact hg _ _ hx
    rw [World.cell?_of_block (w := w) (a := ⟨b, off + j, none⟩) (hk b hb)]
    exact hx
theorem frame_nou8 {w : World} {g : Nat} {a0 a1 a3 : Int} {q : Option Addr} {n c : Nat} {t : TypeId} (h : w.heap[g]? = some (.cells #[.int .i64 a0, .int .u64 a1, .slice q n c, .int .i64 a3] t (0, 0))) : ∀ j z, w.cell? ⟨g, j, none⟩ ≠ some (.int .u8 z) := fun j z => by
  rw [cell_rowH _ _ _ _ _ h]
  match j with
  | 0 | 1 | 2 | 3 => simp
  | j + 4 => simp

set_option maxRecDepth 100000 in
set_option maxHeartbeats 2000000 in
theorem framemakes_walk (k s : Int) (p : Option Addr) (n c : Nat) (zs : List Int) (pa : Option Addr) (na ca : Nat) (az : List Int) (pe : Option Addr) (ne ce : Nat) (es : List Int) (w : World)
    (h : Bs w p n zs) (hpc : p = none → c = 0) (ha : Bs w pa na az) (hpa : pa = none → ca = 0) (he : Bs w pe ne es) (hpe : pe = none → ce = 0) (hn : n + na + ne ≤ 1048576) (hs : 0 ≤ s ∧ s < 18446744073709551616) (hk64 : -9223372036854775808 ≤ k ∧ k ≤ 9223372036854775807) :
    Calls Try.prog 4 #[mdV k s p n c pa na ca pe ne ce] w fun e w' => e = .returned (.bool true) ∧ Below w.heap.size w w' := by
  obtain ⟨wA, hA⟩ : ∃ W, w.alloc (.cells #[.int .i64 k, .int .u64 s, .slice p n c, .slice pa na ca, .slice pe ne ce] 36) = W := ⟨_, rfl⟩
  have HR : Hid (wA.heap[w.heap.size]? = some (.cells #[.int .i64 k, .int .u64 s, .slice p n c, .slice pa na ca, .slice pe ne ce] 36 (0, 0))) := Lib.hid (by rw [← hA]; exact heap_alloc_new _ _)
  have HBA : Hid (Below w.heap.size w wA) := Lib.hid (by rw [← hA]; exact (Below.refl _ _).alloc (Nat.le_refl _) _)
  obtain ⟨a0, a1, a2, a3, a4⟩ := row5k HR.out
  have HM := Lib.hid fun W (hW : Below wA.heap.size wA W) => fmake_any k s p n c zs W (h.later (below_step HBA.out hW)) hpc (by omega) hs
  have HRM := Lib.hid fun W (hW : Below wA.heap.size wA W) => rmake_any k s p n c zs W (h.later (below_step HBA.out hW)) hpc (by omega) hs
  have HBY := Lib.hid fun W (hW : Below wA.heap.size wA W) => fbytes_any k s p n c zs pa na ca az pe ne ce es W (h.later (below_step HBA.out hW)) hpc (ha.later (below_step HBA.out hW)) hpa (he.later (below_step HBA.out hW)) hpe (by omega) (by omega) (by omega) hs
  have HPS : Hid (1 ≤ k → k ≤ 8 → n ≤ 65536 → psE (az ++ frmN k s zs ++ es) (na : Int) = 0 ∧ psF (az ++ frmN k s zs ++ es) (na : Int) = ⟨k, s, zs, (na : Int) + 21 + n⟩) := Lib.hid fun h1 h8 h6 => ps_made az es zs k s na n ha.len h.len h1 h8 h6 hs.1 hs.2
  obtain ⟨F, hF⟩ : ∃ F, frmN k s zs = F := ⟨_, rfl⟩
  rw [hF] at HM HRM HBY HPS
  have HFL : Hid (F.length = n + 21) := Lib.hid (by rw [← hF, frmN_length, h.len])
  obtain ⟨X, hX⟩ : ∃ X, az ++ F ++ es = X := ⟨_, rfl⟩
  rw [hX] at HBY HPS
  obtain ⟨M, hM⟩ : ∃ M, X.length = M := ⟨_, rfl⟩
  have HML := Lib.hid hM
  have HMN : Hid (M = na + (n + 21) + ne) := Lib.hid (by rw [← hM, ← hX, List.length_append, List.length_append, HFL.out, ha.len, he.len])
  have HM2 : Hid (M ≤ 4194304) := Lib.hid (by have := HMN.out; omega)
  have HPA := Lib.hid fun (p3 : Option Addr) (c3 : Nat) W (hW : Bs W p3 M X) (h1 : p3 = none → c3 = 0) (h2 : M ≤ c3) => fparse_any p3 M c3 X (na : Int) W hW h1 h2 HM2.out (by omega)
  generalize psF X (na : Int) = FF at *
  generalize psE X (na : Int) = E at *
  obtain ⟨k', s', d', x'⟩ := FF
  dsimp only at HPA
  have HSF : Hid (decide (F = F) = true) := Lib.hid (by simp)
  have hm21 : n + 21 ≤ maxLen := by unfold maxLen; omega
  have HDZ := Lib.hid fun W (hW : Below wA.heap.size wA W) => h.later (below_step HBA.out hW)
  have HNM : Hid (n ≤ maxLen) := Lib.hid (by unfold maxLen; omega)
  clear h ha he hpc hpa hpe hF hX hM
  have hb21 : (n : Int) ≤ 1048576 := by omega
  have hna : (na : Int) ≤ 1048576 := by omega
  clear hn hs
  unfold mdV at HBY ⊢
  unfold frV at HPA
  go_enter Try.func4, Try.ntmps4
  go_upto_region 4 with (first
    | (go_at_call 10; refine (HM.out _ (Below.refl _ _)).mono ?_; rintro e w1 ⟨v1, rfl, ho1, hb1⟩; have HB1 := Lib.hid hb1; obtain ⟨p1, c1, hv1, hlc1, hcm1, hbs1, hpc1⟩ := ho1.open; rw [HFL.out] at hv1 hlc1 hbs1; subst hv1; have HD1 := Lib.hid hbs1; obtain ⟨b0, b1, b2, b3, b4⟩ := row5k (row_later HR.out HB1.out); clear ho1 hb1 hbs1 hpc1 hlc1 hcm1)
    | (go_at_call 12; refine (HRM.out _ HB1.out).mono ?_; rintro e w2 ⟨v2, rfl, ho2, hb2⟩; have HB2 := Lib.hid (below_step HB1.out hb2); have HD1' := Lib.hid (HD1.out.later hb2); obtain ⟨p2, c2, hv2, hlc2, hcm2, hbs2, hpc2⟩ := ho2.open; rw [HFL.out] at hv2 hlc2 hbs2; subst hv2; have HD2 := Lib.hid hbs2; clear ho2 hb2 hbs2 hpc2 hlc2 hcm2)
    | (go_at_call 11; refine (same_any _ _ (n + 21) (n + 21) _ _ F F _ hm21 hm21 HD1'.out HD2.out).mono ?_; rintro e wS ⟨rfl, q3, hq3⟩; rw [decide_eq_true (rfl : F = F)]; have HBS : Hid (Below wA.heap.size wA wS) := Lib.hid (by rw [hq3]; exact below_drewN HB2.out _); obtain ⟨c0, c1, c2, c3, c4⟩ := row5k (row_later HR.out HBS.out); clear hq3)
    | (go_at_call 13; refine (fsize_any n _ (by omega)).mono ?_; rintro e w' ⟨rfl, rfl⟩))
  have HKS := Lib.hid fun W (hW : Below wS.heap.size wS W) => row5k (row_later HR.out (below_step HBS.out hW))
  have HBYS := Lib.hid fun W (hW : Below wS.heap.size wS W) => HBY.out W (below_step HBS.out hW)
  have HD0 : Hid (Below wS.heap.size wS wS.drew) := Lib.hid (Below.refl _ _).drew
  have HD1 : Hid (Below wS.heap.size wS (wS.alloc (.cells #[.int .i64 0, .int .u64 0, .slice none 0 0, .int .i64 0] 25)).drew) := Lib.hid ((Below.refl _ _).alloc (Nat.le_refl _) _).drew
  have HZa : Hid ((wS.alloc (.cells #[.int .i64 0, .int .u64 0, .slice none 0 0, .int .i64 0] 25)).drew.heap[wS.heap.size]? = some (.cells #[.int .i64 0, .int .u64 0, .slice none 0 0, .int .i64 0] 25 (0, 0))) := Lib.hid (row_later (heap_alloc_new wS _) (Below.refl _ _).drew)
  have k0 := Lib.hid (HKS.out _ HD0.out)
  have k1 := Lib.hid (HKS.out _ (Below.refl _ _))
  have k0b := Lib.hid (HKS.out _ HD1.out)
  go_cut [4, 5] (fun f e wx => ∃ (G : Nat) (q : Option Addr) (n' c' : Nat), f = .pointer (some ⟨G, 0, none⟩) ∧ e = .int .i64 E ∧ Hid (wx.heap[G]? = some (.cells #[.int .i64 k', .int .u64 s', .slice q n' c', .int .i64 x'] 25 (0, 0))) ∧ Hid (Bs wx q n' d') ∧ Hid (Below wS.heap.size wS wx))
  case first =>
    go_region_held3 (fun W => W.cell? ⟨w.heap.size, 0, none⟩ = some (.int .i64 k) ∧ W.cell? ⟨w.heap.size, 1, none⟩ = some (.int .u64 s) ∧ W.cell? ⟨w.heap.size, 2, none⟩ = some (.slice p n c) ∧ W.cell? ⟨w.heap.size, 3, none⟩ = some (.slice pa na ca) ∧ W.cell? ⟨w.heap.size, 4, none⟩ = some (.slice pe ne ce)) (first | with_reducible exact k0.out | with_reducible exact k1.out | with_reducible exact k0b.out | with_reducible exact k2.out | with_reducible exact k2b.out | with_reducible exact k3.out | with_reducible exact k3b.out | with_reducible exact k3c.out | with_reducible exact k3d.out | with_reducible exact k3e.out | with_reducible exact k1.out) (first
      | (go_at_call 14; refine (HBYS.out _ (by first | exact HD0.out | exact HD1.out)).mono ?_; rintro e w2 ⟨v2, rfl, ho2, hb2⟩; have HB2 : Hid (Below wS.heap.size wS w2) := Lib.hid (by first | exact below_step HD0.out hb2 | exact below_step HD1.out hb2); have k2 := Lib.hid (HKS.out _ HB2.out); have HB2b := Lib.hid (HB2.out.alloc HB2.out.size (.cells #[.int .i64 0, .int .u64 0, .slice none 0 0, .int .i64 0] 25)); have k2b := Lib.hid (HKS.out _ HB2b.out); have HZb : Hid ((w2.alloc (.cells #[.int .i64 0, .int .u64 0, .slice none 0 0, .int .i64 0] 25)).heap[w2.heap.size]? = some (.cells #[.int .i64 0, .int .u64 0, .slice none 0 0, .int .i64 0] 25 (0, 0))) := Lib.hid (heap_alloc_new _ _); (try have HZ2 := Lib.hid (row_later HZa.out hb2)); obtain ⟨p3, c3, hv3, hlc3, _, hbs3, hpc3⟩ := ho2.open; rw [HML.out] at hv3 hlc3 hbs3; subst hv3; have HS3 := Lib.hid hbs3; have HP3 := Lib.hid hpc3; have HL3 := Lib.hid hlc3; clear ho2 hb2 hbs3 hpc3 hlc3)
      | (go_at_call 6; refine (HPA.out p3 c3 _ (by first | exact HS3.out | exact HS3.out.later ((Below.refl _ _).alloc (Nat.le_refl _) _)) HP3.out HL3.out).mono ?_; rintro e w3 ⟨q, n', c', rfl, hd3, hn3, hc3, hq3, hb3⟩; have HB3 : Hid (Below wS.heap.size wS w3) := Lib.hid (by first | exact below_step HB2.out hb3 | exact below_step HB2b.out hb3); have HX3 : Hid (Below w2.heap.size w2 w3) := Lib.hid (by first | exact hb3 | exact below_step ((Below.refl _ _).alloc (Nat.le_refl _) _) hb3); have HD3 := Lib.hid hd3; have k3 := Lib.hid (HKS.out _ HB3.out); have k3b := Lib.hid (HKS.out _ (HB3.out.alloc HB3.out.size (.cells #[.int .i64 0, .int .u64 0, .slice none 0 0, .int .i64 0] 25))); have k3c := Lib.hid (HKS.out _ (HB3.out.alloc HB3.out.size (.cells #[.int .i64 k', .int .u64 s', .slice q n' c', .int .i64 x'] 25))); have k3d := Lib.hid (HKS.out _ (below4 (g := wS.heap.size) HB3.out (Nat.le_refl _) (.int .i64 k') (.int .u64 s') (.slice q n' c') (.int .i64 x'))); have k3e := Lib.hid (HKS.out _ (below4 (g := w2.heap.size) HB3.out HB2.out.size (.int .i64 k') (.int .u64 s') (.slice q n' c') (.int .i64 x'))); (try (have HZ3 := Lib.hid (row_later HZ2.out HX3.out); obtain ⟨z0, z1, z2, z3, f0, f1, f2, f3⟩ := row4 HZ3.out)); (try (have HZ3 := Lib.hid (row_later HZb.out hb3); obtain ⟨z0, z1, z2, z3, f0, f1, f2, f3⟩ := row4 HZ3.out)); clear hb3 hd3))
    all_goals (go_wp2_with fail)
    all_goals go_meet
    all_goals (first
      | with_reducible exact ⟨w3.heap.size, q, n', c', rfl, rfl, Lib.hid (heap_alloc_new _ _), Lib.hid (HD3.out.later ((Below.refl _ _).alloc (Nat.le_refl _) _)), Lib.hid (HB3.out.alloc HB3.out.size _)⟩
      | with_reducible exact ⟨w2.heap.size, q, n', c', rfl, rfl, Lib.hid (c4_stored HZ3.out _ _ _ _), Lib.hid (HD3.out.storedN (frame_nou8 HZ3.out) (fun k hk => four_other _ _ _ _ _ _ _ hk)), Lib.hid (below4 (g := w2.heap.size) HB3.out HB2.out.size _ _ _ _)⟩
      | with_reducible exact ⟨wS.heap.size, q, n', c', rfl, rfl, Lib.hid (c4_stored HZ3.out _ _ _ _), Lib.hid (HD3.out.storedN (frame_nou8 HZ3.out) (fun k hk => four_other _ _ _ _ _ _ _ hk)), Lib.hid (below4 (g := wS.heap.size) HB3.out (Nat.le_refl _) _ _ _ _)⟩)
  case rest =>
    obtain ⟨G, q, n', c', rfl, rfl, HG, HDG, HBC⟩ := hcut
    have HBX := Lib.hid (below_step HBS.out HBC.out)
    obtain ⟨r0, r1, r2, r3, r4⟩ := row5k (row_later HR.out HBX.out)
    obtain ⟨g0, g1, g2, g3, _⟩ := row4 HG.out
    by_cases h1 : 1 ≤ k
    · by_cases h8 : k ≤ 8
      · by_cases h6 : (n : Int) ≤ 65536
        · have hp := HPS.out h1 h8 (by omega)
          obtain ⟨rfl, hfr⟩ := hp
          simp only [Fr.mk.injEq] at hfr
          obtain ⟨rfl, rfl, rfl, rfl⟩ := hfr
          have HSV := Lib.hid (fsame_any k' s' ((na : Int) + ((n : Int) + 21)))
          unfold frV at HSV
          have hx : (na : Int) + 21 + (n : Int) = (na : Int) + ((n : Int) + 21) := by omega
          have hw : IntKind.i64.wrap ((na : Int) + ((n : Int) + 21)) = (na : Int) + ((n : Int) + 21) := by simp [IntKind.wrap, IntKind.bits, IntKind.signed]; omega
          rw [hx] at g3
          have HDP := Lib.hid (HDZ.out _ HBX.out)
          have HNq : Hid (n' ≤ maxLen) := Lib.hid (by have h1 := HDG.out.len; have h2 := HDP.out.len; have h3 := HNM.out; omega)
          clear HBYS HKS HDZ HPS HBY HRM HM HPA hx
          go_wp2_with (first
            | (go_at_call 8; refine (HSV.out q n' c' p n c d' _ HDG.out HDP.out HNq.out).mono ?_; rintro e w3 ⟨rfl, hb3⟩; have HB3 := Lib.hid (below_step (below_step HBA.out HBX.out) hb3); clear hb3)
            | (go_at_call 9; refine (flives_any _).mono ?_; rintro e w4 ⟨rfl, hb4⟩; have HB4 := Lib.hid (below_step HB3.out hb4); clear hb4))
          go_ret
          exact ⟨rfl, HB4.out⟩
        · clear HBYS HKS HDZ HPS HBY HRM HM HPA
          go_wp2_with (go_at_call 9; refine (flives_any _).mono ?_; rintro e w4 ⟨rfl, hb4⟩; have HB4 := Lib.hid (below_step (below_step HBA.out HBX.out) hb4); clear hb4)
          go_ret
          exact ⟨rfl, HB4.out⟩
      · clear HBYS HKS HDZ HPS HBY HRM HM HPA
        go_wp2_with (go_at_call 9; refine (flives_any _).mono ?_; rintro e w4 ⟨rfl, hb4⟩; have HB4 := Lib.hid (below_step (below_step HBA.out HBX.out) hb4); clear hb4)
        go_ret
        exact ⟨rfl, HB4.out⟩
    · clear HBYS HKS HDZ HPS HBY HRM HM HPA
      go_wp2_with (go_at_call 9; refine (flives_any _).mono ?_; rintro e w4 ⟨rfl, hb4⟩; have HB4 := Lib.hid (below_step (below_step HBA.out HBX.out) hb4); clear hb4)
      go_ret
      exact ⟨rfl, HB4.out⟩

set_option maxRecDepth 100000 in
theorem frameMakes_contract (H : Type) (enc : TypeId × Value → H) (W : World) (base : Nat) (args : Array Value) (ds gs : List (DataW H)) (before : List MemPlace)
    (hval : ∀ (j : Nat) t v, Try.f4.params[j]? = some t → args[j]? = some v → Value.okWide Try.prog W .any base t v)
    (hW : DataW.Whole enc Try.prog Try.f4.params.toList Rows.frameMakesSpec.vars false W args.toList ds gs before) (hk : Rows.uptoSmall H (ds ++ gs) = true) :
    Calls Try.prog 4 args W fun e W' => ∃ v, e = .returned v ∧ Rows.frameMakesSpec.post enc Try.prog Try.f4 false true false false W args v W' := by
  have hW' := hW
  obtain ⟨p, q, hA0, hV, rfl, hfz, hnd⟩ := hW
  have hA : DataW.TrodAll enc Try.prog W 0 (fun _ => true) true Try.f4.params.toList args.toList ds p := hA0
  rw [Try.params4] at hA hval
  obtain ⟨v0, vs0, d0, ds0, p0, q0, hargs, rfl, rfl, t0, r0⟩ := trodAll_cons hA
  obtain ⟨rfl, rfl, rfl⟩ := trodAll_nil r0
  obtain rfl : args = #[v0] := by cases args; simp_all
  obtain ⟨rfl, rfl⟩ := trodVars_none hV
  have hk0 := of_decide_eq_true hk
  simp only [Rows.uptoBulkAll, List.append_nil] at hk0
  obtain ⟨k0, s0, b0, n0, c0, zs0, ba0, na0, ca0, az0, be0, ne0, ce0, es0, rfl, hs0, hbs0, hbc0, hnc0, has0, hac0, hna0, hes0, hec0, hne0, hz0, hkk0⟩ := open_made (hval 0 36 v0 rfl rfl) t0
  have hk' := of_decide_eq_true hk
  simp only [Rows.uptoBulkAll, List.append_nil] at hk'
  refine (framemakes_walk  k0 s0 b0 n0 c0 zs0 ba0 na0 ca0 az0 be0 ne0 ce0 es0 W hbs0 hbc0 has0 hac0 hes0 hec0 (by omega) hs0 hkk0).mono fun e W' ⟨he, hb⟩ => ?_
  subst he
  exact ⟨_, rfl, law_post laidOut (by kernel_rfl) rfl Try.underlying4 rfl hW' rfl rfl rfl hb⟩

set_option maxRecDepth 100000 in
theorem frameMakes_lifted (os : Os) (started : os.Started) (H : Type) (enc : TypeId × Value → H) (F : Stop.Interp) :
    ReturnsInHanded {} Try.checked os 4 .any ((Rows.OpenSpec.upto Rows.frameMakesSpec).pre6 enc Try.prog Try.f4 Rows.frameMakesUptoRow.domain false) (((Rows.OpenSpec.upto Rows.frameMakesSpec).at F).post enc Try.prog Try.f4 false true false false) := by
  refine returnsInHanded_of_cond (C := Try.checked) (s := Rows.OpenSpec.upto Rows.frameMakesSpec) (k := Rows.uptoSmall) rfl own started (by kernel_rfl) Try.func4
    (OpenSpec.witness (enc := enc) (C := Try.checked) (s := Rows.OpenSpec.upto Rows.frameMakesSpec) (k := Rows.uptoSmall) rfl false ⟨#[], #[.agg #[.int .i64 0, .int .u64 0, .slice none 0 0, .slice none 0 0, .slice none 0 0]], []⟩ 8 (by kernel_rfl) (by kernel_rfl) (by kernel_rfl)
      (x := ([.agg [.lit (.int .i64 0), .lit (.int .u64 0), .nil, .nil, .nil]], [], [])) (by kernel_rfl) rfl (by kernel_rfl)) ?_
  intro W base args ds gs before hval hW _ hk _
  exact frameMakes_contract H enc W base args ds gs before hval hW hk

theorem frameMakesUpto_holds : Rows.FrameMakesUptoSaid :=
  OpenClaim.holds_of_cond 4 Try.f4 rfl rfl rfl rfl rfl rfl rfl ⟨rfl, rfl, rfl, rfl, rfl⟩ rfl rfl rfl rfl rfl (by kernel_rfl) Try.func4 (by kernel_rfl)
    (of_decide_eq_true (by kernel_rfl)) (by unfold Func.isWrapper; first | (rw [if_pos (by decide +kernel)]; kernel_rfl) | (rw [if_neg (by decide +kernel)]; exact ⟨rfl, rfl⟩))
    (fun os started H enc _ F => frameMakes_lifted os started H enc F)
