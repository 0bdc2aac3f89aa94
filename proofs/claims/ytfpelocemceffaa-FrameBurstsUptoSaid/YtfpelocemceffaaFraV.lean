/- The statement FrameBursts of layer 13, where what comes in is of bulk at most 1048576: a frame some of whose bits within 32 side by side are turned round is not parsed, whatever stands around it; the law returns true. -/
import Derived.Test.YtfpelocemceffaaFraO
import Derived.Test.YtfpelocemceffaaCrcU
import Derived.Deep.DeepCutAuto
namespace Go.Proofs.Ytfpelocemceffaa
set_option linter.unusedVariables false
open Go.RowKit Go.Lib Go.ChangeShapes Go.WideShapes Go.ChangeAt

theorem ps_burst (az es zs : List Int) (k s : Int) (na n M : Nat) (ha : az.length = na) (hn : zs.length = n) (hA : Byt az) (hE : Byt es) (hZ : Byt zs) (hn2 : n ≤ 1048576) (bit : Int) (m : Nat)
    (h0 : psE (turnZ (az ++ frmN k s zs ++ es) bit m 32) (na : Int) = 0) :
    ((turnZ (az ++ frmN k s zs ++ es) bit m 32).drop na).take (n + 21) = frmN k s zs := by
  unfold psE at h0
  split at h0
  · omega
  · rw [Int.toNat_natCast] at h0
    have := frm_burst az es zs k s n hA hE hZ hn (by omega) bit m (by rw [ha]; exact h0)
    rwa [ha] at this

set_option maxRecDepth 100000 in
set_option maxHeartbeats 2000000 in
theorem framebursts_walk (k s : Int) (p : Option Addr) (n c : Nat) (zs : List Int) (pa : Option Addr) (na ca : Nat) (az : List Int) (pe : Option Addr) (ne ce : Nat) (es : List Int) (bit : Int) (m : Nat) (w : World)
    (h : Bs w p n zs) (hpc : p = none → c = 0) (ha : Bs w pa na az) (hpa : pa = none → ca = 0) (he : Bs w pe ne es) (hpe : pe = none → ce = 0) (hn : n + na + ne ≤ 1048576) (hs : 0 ≤ s ∧ s < 18446744073709551616) (hk64 : -9223372036854775808 ≤ k ∧ k ≤ 9223372036854775807) (hb0 : -9223372036854775808 ≤ bit) (hb1 : bit ≤ 9223372036854775807) (hm : m < 4294967296) :
    Calls Try.prog 5 #[mdV k s p n c pa na ca pe ne ce, .int .i64 bit, .int .u32 (m : Int)] w fun e w' => e = .returned (.bool true) ∧ Below w.heap.size w w' := by
  obtain ⟨wA, hA⟩ : ∃ W, w.alloc (.cells #[.int .i64 k, .int .u64 s, .slice p n c, .slice pa na ca, .slice pe ne ce] 36) = W := ⟨_, rfl⟩
  have HR : Hid (wA.heap[w.heap.size]? = some (.cells #[.int .i64 k, .int .u64 s, .slice p n c, .slice pa na ca, .slice pe ne ce] 36 (0, 0))) := Lib.hid (by rw [← hA]; exact heap_alloc_new _ _)
  have HBA : Hid (Below w.heap.size w wA) := Lib.hid (by rw [← hA]; exact (Below.refl _ _).alloc (Nat.le_refl _) _)
  obtain ⟨a0, a1, a2, a3, a4⟩ := row5k HR.out
  have HBY := Lib.hid (fbytes_any k s p n c zs pa na ca az pe ne ce es wA (h.later HBA.out) hpc (ha.later HBA.out) hpa (he.later HBA.out) hpe (by omega) (by omega) (by omega) hs)
  have HPB := Lib.hid (ps_burst az es zs k s na n (na + (n + 21) + ne) ha.len h.len ha.byte he.byte h.byte (by omega) bit m)
  obtain ⟨F, hF⟩ : ∃ F, frmN k s zs = F := ⟨_, rfl⟩
  rw [hF] at HBY HPB
  obtain ⟨X, hX⟩ : ∃ X, az ++ F ++ es = X := ⟨_, rfl⟩
  rw [hX] at HBY HPB
  have hFl : F.length = n + 21 := by rw [← hF, frmN_length, h.len]
  have hXl : X.length = na + (n + 21) + ne := by rw [← hX, List.length_append, List.length_append, hFl, ha.len, he.len]
  have HXF : Hid ((X.drop na).take (n + 21) = F) := Lib.hid (by rw [← hX, List.append_assoc, ← ha.len, List.drop_left, ← hFl, List.take_left])
  obtain ⟨M, hM⟩ : ∃ M, X.length = M := ⟨_, rfl⟩
  have hMn : M = na + (n + 21) + ne := by omega
  have HML := Lib.hid hM
  obtain ⟨J, hJ⟩ : ∃ J, na + (n + 21) = J := ⟨_, rfl⟩
  have hMJ : (M : Int) - (ne : Int) = (J : Int) := by omega
  have hJa : (na : Int) ≤ (J : Int) := by omega
  have HJM : Hid (na ≤ J ∧ J ≤ M ∧ M ≤ 1048597 ∧ J - na = n + 21) := Lib.hid (by omega)
  obtain ⟨Y, hY⟩ : ∃ Y, turnZ X bit m 32 = Y := ⟨_, rfl⟩
  have HTU := Lib.hid fun (p1 : Option Addr) (c1 : Nat) W (hW : Bs W p1 M X) (h1 : p1 = none → c1 = 0) => cturn_any p1 M c1 X bit m W hW h1 (by omega) hb0 hb1 hm
  rw [hY] at HPB HTU
  have HYL : Hid (Y.length = M) := Lib.hid (by rw [← hY, turnZ_length, hM])
  have HPA := Lib.hid fun (p3 : Option Addr) (c3 : Nat) W (hW : Bs W p3 M Y) (h1 : p3 = none → c3 = 0) (h2 : M ≤ c3) => fparse_any p3 M c3 Y (na : Int) W hW h1 h2 (by omega) (by omega)
  generalize psF Y (na : Int) = FF at *
  generalize psE Y (na : Int) = E at *
  obtain ⟨k', s', d', x'⟩ := FF
  dsimp only at HPA
  have hm21 : n + 21 ≤ maxLen := by unfold maxLen; omega
  have hMb : (M : Int) ≤ 1048597 := by omega
  clear h ha he hpc hpa hpe hF hX hM hFl hXl hY hn hs hMn hJ
  unfold mdV at HBY ⊢
  unfold frV at HPA
  go_enter Try.func5, Try.ntmps5
  go_wp2_with (first
    | (go_at_call 14; refine HBY.out.mono ?_; rintro e w1 ⟨v1, rfl, ho1, hb1⟩; have HB1 := Lib.hid hb1; obtain ⟨p1, c1, hv1, hlc1, hcm1, hbs1, hpc1⟩ := ho1.open; rw [HML.out] at hv1 hlc1 hbs1; subst hv1; have HD1 := Lib.hid hbs1; have HP1 := Lib.hid hpc1; have HL1 := Lib.hid hlc1; clear ho1 hb1 hbs1 hpc1 hlc1 hcm1)
    | (go_at_call 15; refine (HTU.out p1 c1 _ HD1.out HP1.out).mono ?_; rintro e w2 ⟨v2, rfl, ho2, hb2⟩; have HB2 := Lib.hid (below_step HB1.out hb2); have HX2 := Lib.hid (HD1.out.later hb2); obtain ⟨p2, c2, hv2, hlc2, hcm2, hbs2, hpc2⟩ := ho2.open; rw [HYL.out] at hv2 hlc2 hbs2; subst hv2; have HD2 := Lib.hid hbs2; have HP2 := Lib.hid hpc2; have HL2 := Lib.hid hlc2; obtain ⟨b0, b1, b2, b3, b4⟩ := row5k (row_later HR.out HB2.out); clear ho2 hb2 hbs2 hpc2 hlc2 hcm2))
  go_quiet (fail)
  generalize hw3 : w2.drewN nq = w3
  have HB3 : Hid (Below wA.heap.size wA w3) := Lib.hid (by rw [← hw3]; exact below_drewN HB2.out _)
  have HX3 : Hid (Bs w3 p1 M X) := Lib.hid (HX2.out.later (by rw [← hw3]; exact below_drewN (Below.refl _ _) _))
  have HY3 : Hid (Bs w3 p2 M Y) := Lib.hid (HD2.out.later (by rw [← hw3]; exact below_drewN (Below.refl _ _) _))
  clear hw3
  obtain ⟨q1, hs1, hd1, _⟩ := HX3.out.slice_lh (P := Try.prog) 22 5 Try.underlying22 (fun _ => by kernel_rfl) c1 na J HL1.out HJM.out.1 HJM.out.2.1
  obtain ⟨q2, hs2, hd2, _⟩ := HY3.out.slice_lh (P := Try.prog) 22 5 Try.underlying22 (fun _ => by kernel_rfl) c2 na J HL2.out HJM.out.1 HJM.out.2.1
  rw [HJM.out.2.2.2] at hs1 hd1 hs2 hd2
  rw [HXF.out] at hd1
  obtain ⟨V, hV⟩ : ∃ V, (Y.drop na).take (n + 21) = V := ⟨_, rfl⟩
  rw [hV] at hd2 HPB
  have HD1 := Lib.hid hd1
  have HD2' := Lib.hid hd2
  obtain ⟨sb, hsb⟩ : ∃ b, decide (F = V) = b := ⟨_, rfl⟩
  have HSB := Lib.hid hsb
  have HCA : Hid (sb = true ∨ (E != 0) = true) := Lib.hid (by
    by_cases h0 : E = 0
    · left; rw [← hsb, HPB.out h0]; simp
    · right; simpa using h0)
  clear hV hd1 hd2 hsb
  go_wp2_with (go_at_call 6; refine (HPA.out p2 c2 _ HY3.out HP2.out HL2.out).mono ?_; rintro e w4 ⟨q4, n4, c4, rfl, hd4, hn4, hc4, hq4, hb4⟩; obtain ⟨wF, hF⟩ : ∃ W, w4.alloc (.cells #[.int .i64 k', .int .u64 s', .slice q4 n4 c4, .int .i64 x'] 25) = W := ⟨_, rfl⟩; have HBF : Hid (Below w3.heap.size w3 wF.drew) := Lib.hid (by rw [← hF]; exact (hb4.alloc hb4.size _).drew); clear hb4 hd4 hn4 hc4 hq4)
  cases sb with
  | true =>
    clear HCA
    refine wp_region_noPanic ?_
    refine wp_region_held_drew (S := fun _ => True) (by kernel_rfl) trivial (fun hHeld => ?_)
    refine take_at 0 (v := ?vv1) rfl (by kernel_rfl) (by kernel_rfl) (by kernel_rfl) (fun _ _ _ h => h) (Or.inl ⟨by rfl, ?hy1⟩) (by assumption) ?rest1
    case hy1 => intro w hSw; (try dsimp only at hSw); go_simp; (try with_reducible rfl)
    (try simp only [Act.put, List.setIfInBounds_toArray, List.set_cons_zero, List.set_cons_succ])
    refine take_at 1 (v := ?vv2) rfl (by kernel_rfl) (by kernel_rfl) (by kernel_rfl) (fun _ _ _ h => h) (Or.inl ⟨by rfl, ?hy2⟩) (by assumption) ?rest2
    case hy2 => intro w hSw; (try dsimp only at hSw); go_simp; (try with_reducible rfl)
    (try simp only [Act.put, List.setIfInBounds_toArray, List.set_cons_zero, List.set_cons_succ])
    refine take_at 2 (v := ?vv3) rfl (by kernel_rfl) (by kernel_rfl) (by kernel_rfl) (fun _ _ _ h => h) (Or.inl ⟨by rfl, ?hy3⟩) (by assumption) ?rest3
    case hy3 => intro w hSw; (try dsimp only at hSw); go_simp; (try with_reducible rfl)
    (try simp only [Act.put, List.setIfInBounds_toArray, List.set_cons_zero, List.set_cons_succ])
    refine take_at 3 (v := ?vv4) rfl (by kernel_rfl) (by kernel_rfl) (by kernel_rfl) (fun _ _ _ h => h) (Or.inl ⟨by rfl, ?hy4⟩) (by assumption) ?rest4
    case hy4 => intro w hSw; (try dsimp only at hSw); go_simp; (try with_reducible rfl)
    (try simp only [Act.put, List.setIfInBounds_toArray, List.set_cons_zero, List.set_cons_succ])
    refine take_at 4 (v := ?vv5) rfl (by kernel_rfl) (by kernel_rfl) (by kernel_rfl) (fun _ _ _ h => h) (Or.inl ⟨by rfl, ?hy5⟩) (by assumption) ?rest5
    case hy5 => intro w hSw; (try dsimp only at hSw); go_simp; (try with_reducible rfl)
    (try simp only [Act.put, List.setIfInBounds_toArray, List.set_cons_zero, List.set_cons_succ])
    refine take_at 5 (v := ?vv6) rfl (by kernel_rfl) (by kernel_rfl) (by kernel_rfl) (fun _ _ _ h => h) (Or.inl ⟨by rfl, ?hy6⟩) (by assumption) ?rest6
    case hy6 => intro w hSw; (try dsimp only at hSw); go_simp; (try with_reducible rfl)
    (try simp only [Act.put, List.setIfInBounds_toArray, List.set_cons_zero, List.set_cons_succ])
    refine take_at 6 (v := ?vv7) rfl (by kernel_rfl) (by kernel_rfl) (by kernel_rfl) (fun _ _ _ h => h) (Or.inl ⟨by rfl, ?hy7⟩) (by assumption) ?rest7
    case hy7 => intro w hSw; (try dsimp only at hSw); go_simp; (try with_reducible rfl)
    (try simp only [Act.put, List.setIfInBounds_toArray, List.set_cons_zero, List.set_cons_succ])
    refine take_at 7 (v := ?vv8) rfl (by kernel_rfl) (by kernel_rfl) (by kernel_rfl) (fun _ _ _ h => h) (Or.inl ⟨by rfl, ?hy8⟩) (by assumption) ?rest8
    case hy8 => intro w hSw; (try dsimp only at hSw); go_simp; (try with_reducible rfl)
    (try simp only [Act.put, List.setIfInBounds_toArray, List.set_cons_zero, List.set_cons_succ])
    refine ready_at 8 rfl (by kernel_rfl) (fun K hK => ?_)
    go_simp
    refine (same_any q1 q2 (n + 21) (n + 21) _ _ F V _ hm21 hm21 (HD1.out.later HBF.out) (HD2'.out.later HBF.out)).mono ?_
    rintro e w5 ⟨rfl, q5, hq5⟩
    rw [HSB.out]
    have HB5 : Hid (Below w.heap.size w w5) := Lib.hid (by rw [hq5]; exact below_drewN (below_step (below_step HBA.out HB3.out) HBF.out) _)
    clear hq5
    first
      | refine hK.out _ _ ?hS4 (fun hHeld => ?rest99)
      | (go_wp2_with fail; refine hK.out _ _ ?hS4 (fun hHeld => ?rest99))
    case hS4 => trivial
    clear hK K
    (try simp only [Act.put, List.setIfInBounds_toArray, List.set_cons_zero, List.set_cons_succ])
    refine take_at 9 (v := ?vv21) rfl (by kernel_rfl) (by kernel_rfl) (by kernel_rfl) (fun _ _ _ h => h) (Or.inl ⟨by rfl, ?hy21⟩) (by assumption) ?rest21
    case hy21 => intro w hSw; (try dsimp only at hSw); go_simp; (try with_reducible rfl)
    (try simp only [Act.put, List.setIfInBounds_toArray, List.set_cons_zero, List.set_cons_succ])
    refine take_at 10 (v := undef) rfl (by kernel_rfl) (by kernel_rfl) (by kernel_rfl) (fun _ _ _ h => h) (Or.inr ⟨by rfl, rfl⟩) (by assumption) ?_
    (try simp only [Act.put, List.setIfInBounds_toArray, List.set_cons_zero, List.set_cons_succ])
    refine take_at 11 (v := undef) rfl (by kernel_rfl) (by kernel_rfl) (by kernel_rfl) (fun _ _ _ h => h) (Or.inr ⟨by rfl, rfl⟩) (by assumption) ?_
    (try simp only [Act.put, List.setIfInBounds_toArray, List.set_cons_zero, List.set_cons_succ])
    refine take_at 12 (v := ?vv22) rfl (by kernel_rfl) (by kernel_rfl) (by kernel_rfl) (fun _ _ _ h => h) (Or.inl ⟨by rfl, ?hy22⟩) (by assumption) ?rest22
    case hy22 => intro w hSw; (try dsimp only at hSw); go_simp; (try with_reducible rfl)
    (try simp only [Act.put, List.setIfInBounds_toArray, List.set_cons_zero, List.set_cons_succ])
    refine take_at 13 (v := ?vv23) rfl (by kernel_rfl) (by kernel_rfl) (by kernel_rfl) (fun _ _ _ h => h) (Or.inl ⟨by rfl, ?hy23⟩) (by assumption) ?rest23
    case hy23 => intro w hSw; (try dsimp only at hSw); go_simp; (try with_reducible rfl)
    (try simp only [Act.put, List.setIfInBounds_toArray, List.set_cons_zero, List.set_cons_succ])
    refine ready_at 14 rfl (by kernel_rfl) (fun K hK => ?_)
    go_simp
    refine (flives_any _).mono ?_
    rintro e w6 ⟨rfl, hb6⟩
    have HB6 := Lib.hid (below_step HB5.out hb6)
    clear hb6
    first
      | refine hK.out _ _ ?hS5 (fun hHeld => ?rest98)
      | (go_wp2_with fail; refine hK.out _ _ ?hS5 (fun hHeld => ?rest98))
    case hS5 => trivial
    clear hK K
    (try simp only [Act.put, List.setIfInBounds_toArray, List.set_cons_zero, List.set_cons_succ])
    refine take_at 15 (v := ?vv24) rfl (by kernel_rfl) (by kernel_rfl) (by kernel_rfl) (fun _ _ _ h => h) (Or.inl ⟨by rfl, ?hy24⟩) (by assumption) ?rest24
    case hy24 => intro w hSw; (try dsimp only at hSw); go_simp; (try with_reducible rfl)
    (try simp only [Act.put, List.setIfInBounds_toArray, List.set_cons_zero, List.set_cons_succ])
    refine take_at 16 (v := ?vv25) rfl (by kernel_rfl) (by kernel_rfl) (by kernel_rfl) (fun _ _ _ h => h) (Or.inl ⟨by rfl, ?hy25⟩) (by assumption) ?rest25
    case hy25 => intro w hSw; (try dsimp only at hSw); go_simp; (try with_reducible rfl)
    (try simp only [Act.put, List.setIfInBounds_toArray, List.set_cons_zero, List.set_cons_succ])
    refine wpAnyH_done (by kernel_rfl) ?_ _
    refine NoPanic.normal ?_
    go_wp2
    go_ret
    exact ⟨rfl, HB6.out⟩
  | false =>
    have hE : (E != 0) = true := by
      rcases HCA.out with h | h
      · cases h
      · exact h
    clear HCA
    go_region_held3 (fun _ => True) (trivial) (first
      | (go_at_call 11; refine (same_any q1 q2 (n + 21) (n + 21) _ _ F V _ hm21 hm21 (HD1.out.later HBF.out) (HD2'.out.later HBF.out)).mono ?_; rintro e w5 ⟨rfl, q5, hq5⟩; rw [HSB.out]; have HB5 : Hid (Below w.heap.size w w5) := Lib.hid (by rw [hq5]; exact below_drewN (below_step (below_step HBA.out HB3.out) HBF.out) _); clear hq5)
      | (go_at_call 9; refine (flives_any _).mono ?_; rintro e w6 ⟨rfl, hb6⟩; have HB6 := Lib.hid (below_step HB5.out hb6); clear hb6))
    all_goals go_wp2
    all_goals go_ret
    all_goals exact ⟨rfl, HB6.out⟩

set_option maxRecDepth 100000 in
theorem frameBursts_contract (H : Type) (enc : TypeId × Value → H) (W : World) (base : Nat) (args : Array Value) (ds gs : List (DataW H)) (before : List MemPlace)
    (hval : ∀ (j : Nat) t v, Try.f5.params[j]? = some t → args[j]? = some v → Value.okWide Try.prog W .any base t v)
    (hW : DataW.Whole enc Try.prog Try.f5.params.toList Rows.frameBurstsSpec.vars false W args.toList ds gs before) (hk : Rows.uptoSmall H (ds ++ gs) = true) :
    Calls Try.prog 5 args W fun e W' => ∃ v, e = .returned v ∧ Rows.frameBurstsSpec.post enc Try.prog Try.f5 false true false false W args v W' := by
  have hW' := hW
  obtain ⟨p, q, hA0, hV, rfl, hfz, hnd⟩ := hW
  have hA : DataW.TrodAll enc Try.prog W 0 (fun _ => true) true Try.f5.params.toList args.toList ds p := hA0
  rw [Try.params5] at hA hval
  obtain ⟨v0, vs0, d0, ds0, p0, q0, hargs, rfl, rfl, t0, r0⟩ := trodAll_cons hA
  obtain ⟨v1, vs1, d1, ds1, p1, q1, rfl, rfl, rfl, t1, r1⟩ := trodAll_cons r0
  obtain ⟨v2, vs2, d2, ds2, p2, q2, rfl, rfl, rfl, t2, r2⟩ := trodAll_cons r1
  obtain ⟨rfl, rfl, rfl⟩ := trodAll_nil r2
  obtain rfl : args = #[v0, v1, v2] := by cases args; simp_all
  obtain ⟨rfl, rfl⟩ := trodVars_none hV
  have hk0 := of_decide_eq_true hk
  simp only [Rows.uptoBulkAll, List.append_nil] at hk0
  obtain ⟨k0, s0, b0, n0, c0, zs0, ba0, na0, ca0, az0, be0, ne0, ce0, es0, rfl, hs0, hbs0, hbc0, hnc0, has0, hac0, hna0, hes0, hec0, hne0, hz0, hkk0⟩ := open_made (hval 0 36 v0 rfl rfl) t0
  obtain ⟨m1, rfl, rfl, rfl, wm1⟩ := open_int Try.underlying3 (hval 1 3 v1 rfl rfl) t1
  obtain ⟨m2, rfl, rfl, rfl, wm2⟩ := open_int Try.underlying42 (hval 2 42 v2 rfl rfl) t2
  have wn2 := wf_u32 wm2
  obtain ⟨n2, rfl⟩ : ∃ n : Nat, m2 = (n : Int) := ⟨m2.toNat, by omega⟩
  have hk' := of_decide_eq_true hk
  simp only [Rows.uptoBulkAll, List.append_nil] at hk'
  refine (framebursts_walk  k0 s0 b0 n0 c0 zs0 ba0 na0 ca0 az0 be0 ne0 ce0 es0 m1 n2 W hbs0 hbc0 has0 hac0 hes0 hec0 (by omega) hs0 hkk0 (wf_i64 wm1).1 (wf_i64 wm1).2 (by omega)).mono fun e W' ⟨he, hb⟩ => ?_
  subst he
  exact ⟨_, rfl, law_post laidOut (by kernel_rfl) rfl Try.underlying4 rfl hW' rfl rfl rfl hb⟩

set_option maxRecDepth 100000 in
theorem frameBursts_lifted (os : Os) (started : os.Started) (H : Type) (enc : TypeId × Value → H) (F : Stop.Interp) :
    ReturnsInHanded {} Try.checked os 5 .any ((Rows.OpenSpec.upto Rows.frameBurstsSpec).pre6 enc Try.prog Try.f5 Rows.frameBurstsUptoRow.domain false) (((Rows.OpenSpec.upto Rows.frameBurstsSpec).at F).post enc Try.prog Try.f5 false true false false) := by
  refine returnsInHanded_of_cond (C := Try.checked) (s := Rows.OpenSpec.upto Rows.frameBurstsSpec) (k := Rows.uptoSmall) rfl own started (by kernel_rfl) Try.func5
    (OpenSpec.witness (enc := enc) (C := Try.checked) (s := Rows.OpenSpec.upto Rows.frameBurstsSpec) (k := Rows.uptoSmall) rfl false ⟨#[], #[.agg #[.int .i64 0, .int .u64 0, .slice none 0 0, .slice none 0 0, .slice none 0 0], .int .i64 0, .int .u32 0], []⟩ 8 (by kernel_rfl) (by kernel_rfl) (by kernel_rfl)
      (x := ([.agg [.lit (.int .i64 0), .lit (.int .u64 0), .nil, .nil, .nil], .lit (.int .i64 0), .lit (.int .u32 0)], [], [])) (by kernel_rfl) rfl (by kernel_rfl)) ?_
  intro W base args ds gs before hval hW _ hk _
  exact frameBursts_contract H enc W base args ds gs before hval hW hk

theorem frameBurstsUpto_holds : Rows.FrameBurstsUptoSaid :=
  OpenClaim.holds_of_cond 5 Try.f5 rfl rfl rfl rfl rfl rfl rfl ⟨rfl, rfl, rfl, rfl, rfl⟩ rfl rfl rfl rfl rfl (by kernel_rfl) Try.func5 (by kernel_rfl)
    (of_decide_eq_true (by kernel_rfl)) (by unfold Func.isWrapper; first | (rw [if_pos (by decide +kernel)]; kernel_rfl) | (rw [if_neg (by decide +kernel)]; exact ⟨rfl, rfl⟩))
    (fun os started H enc _ F => frameBursts_lifted os started H enc F)
