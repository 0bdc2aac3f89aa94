/- The statement WritesEnds, where what it reads is of bulk at most 1048576: for all bytes, all changes and all choices it answers true and leaves its arguments as they were. -/
import Derived.Test.YtegphibgiicjpaaWriR
namespace Go.Proofs.Ytegphibgiicjpaa
set_option linter.unusedVariables false
open Go.RowKit Go.Lib Go.ChangeShapes Go.WideShapes Go.ChangeAt

theorem run_slice_to_3 {P : Program} (W : World) (t e : TypeId) (ht : P.underlying t = some (.slice e)) (hz : ∀ w, (Go.sizeOf e).run P w = .ok 3 w) (b o len cap h : Nat) (hh : h ≤ cap) :
    (Instr.slice t (.slice (some ⟨b, o, none⟩) len cap) none (some (.int .i64 (h : Int))) none).run P W = .ok (.slice (some ⟨b, o, none⟩) h cap) W := by
  have ht' : P.underlying t = some (.slice (P.elem t)) := by simp [Program.elem, ht]
  have he : P.elem t = e := by simp [Program.elem, ht]
  rw [run_slice_h W t _ _ _ ht' .i64 _ (by omega) (by omega), he, hz]
  simp [Result.andThen, sliced, Addr.add]
theorem slice_wds {P : Program} (W : World) (t e : TypeId) (ht : P.underlying t = some (.slice e)) (hz : ∀ w, (Go.sizeOf e).run P w = .ok 3 w) {w0 : World} {p : Option Addr} {n cap : Nat} {L : List Wd} (h : Ws w0 p n L) (hpc : p = none → cap = 0) (hnc : n ≤ cap) (k : Nat) (hk : k ≤ n) :
    (Instr.slice t (.slice p n cap) none (some (.int .i64 (k : Int))) none).run P W = .ok (.slice p k cap) W := by
  by_cases h0 : n = 0
  · obtain rfl : k = 0 := by omega
    have ht' : P.underlying t = some (.slice (P.elem t)) := by simp [Program.elem, ht]
    have he : P.elem t = e := by simp [Program.elem, ht]
    rw [run_slice_h W t _ _ _ ht' .i64 _ (by omega) (by omega), he, hz]
    cases p with
    | none => simp [Result.andThen, sliced]
    | some a =>
      simp [Result.andThen, sliced]
      intro _
      unfold Addr.add
      split <;> simp_all
  · obtain ⟨b, off, rfl, _⟩ := h.ptr 0 (by omega)
    exact run_slice_to_3 W t e ht hz b off n cap k (by omega)

theorem allP_under (zs : List Int) (l : List Ch) (k : Nat) : ((allP zs (l.take k)).length : Int) ≤ peakP zs.length l := Int.le_trans (allP_peak _ _) (peakP_take l k _)
theorem surP_under (zs : List Int) (l : List Ch) (ch : List Int) (k : Nat) : ((surP zs (l.take k) ch).length : Int) ≤ peakP zs.length l := Int.le_trans (surP_peak _ _ _) (peakP_take l k _)
theorem rep_bytes (n : Nat) : ∀ j, 0 ≤ (List.replicate n (255 : Int)).getD j 0 ∧ (List.replicate n (255 : Int)).getD j 0 < 256 := by
  intro j
  simp only [List.getD_eq_getElem?_getD, List.getElem?_replicate]
  split <;> simp

set_option maxRecDepth 100000 in
set_option maxHeartbeats 4000000 in
theorem wends_walk (q : Option Addr) (l cp : Nat) (zs : List Int) (p : Option Addr) (n cap : Nat) (L : List Wd) (r : Option Addr) (m cm : Nat) (ch : List Int) (w : World) (hz : Bs w q l zs) (hq : q = none → cp = 0) (hlc : l ≤ cp) (hl : cp ≤ 1048576) (h : Ws w p n L) (hpc : p = none → cap = 0) (hnc : n ≤ cap) (hn : n ≤ 1048576)
    (hr : Bs w r m ch) (hrc : r = none → cm = 0) (hmc : m ≤ cm) (hm : cm ≤ 1048576) :
    Calls Try.prog 5 #[.slice q l cp, .slice p n cap, .slice r m cm] w fun e w' => e = .returned (.bool true) ∧ Below w.heap.size w w' := by
  have H := Lib.hid h
  have HR := Lib.hid hr
  have HZ := Lib.hid hz
  have HQ := Lib.hid hq
  have HL : Hid (l ≤ 2097152) := Lib.hid (by omega)
  have HM : Hid (m ≤ 2097152) := Lib.hid (by omega)
  have HN := Lib.hid hn
  have HN2 : Hid (n ≤ 2097152) := Lib.hid (by omega)
  have HLM : Hid (l ≤ maxLen) := Lib.hid (by unfold maxLen; omega)
  have HSL : Hid ((allP zs (chs L)).length ≤ maxLen) := Lib.hid (by have := allP_bound zs (chs L) (by rw [hz.1]; omega); unfold maxLen; omega)
  have hsl := fun (W : World) (k : Nat) (hk : k ≤ n) => slice_wds (P := Try.prog) W 23 26 Try.underlying23 (fun _ => by kernel_rfl) h hpc hnc k hk
  have HSE := Lib.hid hsl
  have HAU : Hid (∀ k, ((allP zs ((chs L).take k)).length : Int) ≤ peakP (l : Int) (chs L)) := Lib.hid (fun k => by have := allP_under zs (chs L) k; rwa [hz.1] at this)
  have HSU : Hid (∀ k, ((surP zs ((chs L).take k) ch).length : Int) ≤ peakP (l : Int) (chs L)) := Lib.hid (fun k => by have := surP_under zs (chs L) ch k; rwa [hz.1] at this)
  have HALL : Hid (surP zs (chs L) (List.replicate n 255) = allP zs (chs L)) := Lib.hid (by have := surP_all zs (chs L); rwa [chs_length, h.1] at this)
  have HNON : Hid (surP zs (chs L) [] = zs) := Lib.hid (surP_none _ _)
  have HO0 := Lib.hid (Ob.nil w w.heap.size 5)
  clear h hz hq hr hpc hrc hnc hsl
  go_enter Try.func5, Try.ntmps5
  go_wp2
  go_loopw [7, 8] (fun v i wr => ∃ k : Nat, k ≤ n ∧ i = .int .i64 (k : Int) ∧ Hid (Ob wr w.heap.size 5 v (List.replicate k 255)) ∧ Hid (Below w.heap.size w wr)) (fun _ i _ => n - (intOf i).toNat)
  case atStart => exact ⟨0, by omega, rfl, HO0, Lib.hid (Below.refl _ _)⟩
  case round =>
    clear HO0
    obtain ⟨k, hk, rfl, HO, HB⟩ := hrel
    by_cases hlt : k < n
    · have HBS := Lib.hid (bs_lit_fr wr 5 #[.int .u8 255] (0, 0) [255] 1 rfl (one_in (by omega)) rfl)
      have HO2 := Lib.hid (HO.out.alloc (.cells #[.int .u8 255] 5))
      have HX2 := Lib.hid (HB.out.alloc HB.out.size (.cells #[.int .u8 255] 5))
      have HSZ : Hid (w.heap.size ≤ (wr.alloc (.cells #[.int .u8 255] 5)).heap.size) := Lib.hid HX2.out.size
      have HLN : Hid ((List.replicate k (255 : Int)).length + 1 ≤ 140737488355328) := Lib.hid (by rw [List.length_replicate]; omega)
      have HREP : Hid (List.replicate k (255 : Int) ++ [255] = List.replicate (k + 1) 255) := Lib.hid (by rw [← List.replicate_succ'])
      clear HO
      go_wp2_with (refine wpList_append_bytes rfl (.tmp 17) (.tmp 18) 22 5 rfl Try.underlying22 info8 w.heap.size _ (List.replicate k 255) rfl HO2.out (some ⟨wr.heap.size, 0, none⟩) 1 1 [255] rfl HBS.out (fun h => by cases h) HLN.out HSZ.out ?_; intro v3 w3 hob3 hg3; rw [HREP.out] at hob3; have HO3 := Lib.hid hob3; have HX3 := Lib.hid (below_new HX2.out HO2.out hg3 HSZ.out); clear hob3 hg3)
      refine ⟨?_, by simp [intOf]; omega⟩
      first
        | exact ⟨k + 1, by omega, by go_num, HO3, HX3⟩
        | ((repeat apply Exists.intro); refine ⟨?_, rfl⟩; exact ⟨k + 1, by omega, by go_num, HO3, HX3⟩)
    · obtain rfl : n = k := by omega
      obtain ⟨p7, c7, hv7, _, _, hbs7, hpc7⟩ := HO.out.open
      rw [List.length_replicate] at hv7 hbs7
      subst hv7
      have HA := Lib.hid hbs7
      clear hbs7 HO
      go_wp2_with fail
      refine (wpeak_any (l : Int) p n cap L wr (H.out.later HB.out) HN.out).mono ?_
      rintro e w4 ⟨rfl, hb4⟩
      have HB4 := Lib.hid (below_step HB.out hb4)
      have HA4 := Lib.hid (HA.out.later hb4)
      clear hb4 HA
      generalize peakP (l : Int) (chs L) = pk at *
      go_wp2
      clear HB
      go_loopw [10] (fun i wq => ∃ k : Nat, k ≤ n + 1 ∧ i = .int .i64 (k : Int) ∧ Hid (Below w.heap.size w wq) ∧ Hid (Bs wq p7 n (List.replicate n 255))) (fun i _ => n + 1 - (intOf i).toNat)
      case atStart => exact ⟨0, by omega, rfl, HB4, HA4⟩
      case round =>
        clear HB4 HA4
        obtain ⟨k, hk2, rfl, HB, HA⟩ := hrel
        by_cases hlt2 : k ≤ n
        · have hle : (k : Int) ≤ (n : Int) := by omega
          have hslk := fun W => HSE.out W k hlt2
          have HCT := Lib.hid (chs_take L k)
          have HPA := Lib.hid (HAU.out k)
          have HPS := Lib.hid (HSU.out k)
          have HWK := Lib.hid (H.out.take k hlt2)
          rw [← HCT.out] at HPA HPS
          clear HCT
          go_wp2_with fail
          refine (wall_any q l cp zs p k cap (L.take k) wr (HZ.out.later HB.out) HQ.out HL.out (HWK.out.later HB.out) (by omega)).mono ?_
          rintro e w5 ⟨v5, rfl, ho5, hb5⟩
          have HB5 := Lib.hid (below_step HB.out hb5)
          have HA5 := Lib.hid (HA.out.later hb5)
          obtain ⟨p5, c5, hv5, _, _, _, _⟩ := ho5.open
          subst hv5
          clear ho5 hb5
          generalize (allP zs (chs (L.take k))).length = y5 at *
          have hy5 : decide ((y5 : Int) > pk) = false := by have := HPA.out; simp; omega
          go_wp2_with fail
          refine (wsurvive_any q l cp zs p k cap (L.take k) r m cm ch w5 (HZ.out.later HB5.out) HQ.out HL.out (HWK.out.later HB5.out) (by omega) (HR.out.later HB5.out) HM.out).mono ?_
          rintro e w6 ⟨v6, rfl, ho6, hb6⟩
          have HB6 := Lib.hid (below_step HB5.out hb6)
          have HA6 := Lib.hid (HA5.out.later hb6)
          obtain ⟨p6, c6, hv6, _, _, _, _⟩ := ho6.open
          subst hv6
          clear ho6 hb6
          generalize (surP zs (chs (L.take k)) ch).length = y6 at *
          have hy6 : decide ((y6 : Int) > pk) = false := by have := HPS.out; simp; omega
          go_wp2
          refine ⟨?_, by simp [intOf]; omega⟩
          first
            | exact ⟨k + 1, by omega, by go_num, HB6, HA6⟩
            | ((repeat apply Exists.intro); refine ⟨?_, rfl⟩; exact ⟨k + 1, by omega, by go_num, HB6, HA6⟩)
        · have hle : ¬ ((k : Int) ≤ (n : Int)) := by omega
          go_wp2_with fail
          refine (wsurvive_any q l cp zs p n cap L p7 n c7 (List.replicate n 255) wr (HZ.out.later HB.out) HQ.out HL.out (H.out.later HB.out) HN.out HA.out HN2.out).mono ?_
          rintro e w1 ⟨v1, rfl, ho1, hb1⟩
          rw [HALL.out] at ho1
          have HB1 := Lib.hid (below_step HB.out hb1)
          obtain ⟨p1, c1, hv1, _, _, hbs1, _⟩ := ho1.open
          subst hv1
          have HBS1 := Lib.hid hbs1
          clear hbs1 ho1 hb1
          go_wp2_with fail
          refine (wall_any q l cp zs p n cap L w1 (HZ.out.later HB1.out) HQ.out HL.out (H.out.later HB1.out) HN.out).mono ?_
          rintro e w2 ⟨v2, rfl, ho2, hb2⟩
          have HB2 := Lib.hid (below_step HB1.out hb2)
          obtain ⟨p2, c2, hv2, _, _, hbs2, _⟩ := ho2.open
          subst hv2
          have HBS2 := Lib.hid hbs2
          have HBS3 := Lib.hid (HBS1.out.later hb2)
          clear hbs2 ho2 hb2 HBS1 HB1 HALL HAU
          generalize allP zs (chs L) = ss at *
          go_wp2_with fail
          refine (same_any p1 p2 _ _ c1 c2 ss ss _ HSL.out HSL.out HBS3.out HBS2.out).mono ?_
          rintro e w3 ⟨rfl, nq, rfl⟩
          have HB3 := Lib.hid (below_drewN HB2.out nq)
          generalize w2.drewN nq = w3 at *
          clear HBS3 HBS2 HB2
          rw [decide_eq_true (rfl : ss = ss)]
          go_wp2_with fail
          refine (wsurvive_any q l cp zs p n cap L none 0 0 [] w3 (HZ.out.later HB3.out) HQ.out HL.out (H.out.later HB3.out) HN.out (Bs.empty _ _) (by omega)).mono ?_
          rintro e w8 ⟨v8, rfl, ho8, hb8⟩
          rw [HNON.out] at ho8
          have HB8 := Lib.hid (below_step HB3.out hb8)
          obtain ⟨p8, c8, hv8, _, _, hbs8, _⟩ := ho8.open
          subst hv8
          have HBS8 := Lib.hid hbs8
          have HZ8 := Lib.hid (HZ.out.later HB8.out)
          have hzl := HZ8.out.1
          rw [hzl] at HBS8
          clear hbs8 ho8 hb8
          go_wp2_with fail
          refine (same_any p8 q l l c8 cp zs zs _ HLM.out HLM.out HBS8.out HZ8.out).mono ?_
          rintro e w9 ⟨rfl, nq2, rfl⟩
          have HB9 := Lib.hid (below_drewN HB8.out nq2)
          generalize w8.drewN nq2 = w9 at *
          rw [decide_eq_true (rfl : zs = zs)]
          go_wp2_with fail
          refine (wlives_any w9).mono ?_
          rintro e wA ⟨rfl, hbA⟩
          have HBA := Lib.hid (below_step HB9.out hbA)
          clear hbA
          go_wp2
          go_ret
          exact ⟨rfl, HBA.out⟩
theorem writesEnds_contract (H : Type) (enc : TypeId × Value → H) (W : World) (base : Nat) (args : Array Value) (ds gs : List (DataW H)) (before : List MemPlace)
    (hval : ∀ (j : Nat) t v, Try.f5.params[j]? = some t → args[j]? = some v → Value.okWide Try.prog W .any base t v)
    (hW : DataW.Whole enc Try.prog Try.f5.params.toList Rows.writesEndsSpec.vars false W args.toList ds gs before) (hk : Rows.uptoSmall H (ds ++ gs) = true) :
    Calls Try.prog 5 args W fun e W' => ∃ v, e = .returned v ∧ Rows.writesEndsSpec.post enc Try.prog Try.f5 false true false false W args v W' := by
  have hW' := hW
  obtain ⟨p, q, hA0, hV, rfl, hfz, hnd⟩ := hW
  have hA : DataW.TrodAll enc Try.prog W 0 (fun _ => true) true Try.f5.params.toList args.toList ds p := hA0
  rw [Try.params5] at hA hval
  obtain ⟨v0, vs0, d0, ds0, p0, q0, hargs, rfl, rfl, t0, r0⟩ := trodAll_cons hA
  obtain ⟨v1, vs1, d1, ds1, p1, q1, rfl, rfl, rfl, t1, r1⟩ := trodAll_cons r0
  obtain ⟨v2, vs2, d2, ds2, p2, q2, rfl, rfl, rfl, t2, r2⟩ := trodAll_cons r1
  obtain ⟨rfl, rfl, rfl⟩ := trodAll_nil r2
  obtain rfl : args = #[v0, v1, v2] := by cases args; simp_all
  obtain ⟨rfl, rfl⟩ := trodVars_none hV
  obtain ⟨a0, len0, cap0, rfl⟩ := okWide_slice Try.underlying22 (hval 0 22 v0 rfl rfl)
  obtain ⟨fuel0, t0⟩ := t0
  obtain ⟨hlc0, hcm0, hpc0, hb0, zs0, hbs0⟩ := open_bs Try.underlying22 Try.underlying5 (by kernel_rfl) t0
  obtain ⟨a1, len1, cap1, rfl⟩ := okWide_slice Try.underlying23 (hval 1 23 v1 rfl rfl)
  obtain ⟨fuel1, t1⟩ := t1
  obtain ⟨hlc1, hcm1, hpc1, hb1, L1, hbs1⟩ := open_wds t1
  have hb1' : 4 * len1 + 1 ≤ Rows.uptoBulk d1 := hb1
  obtain ⟨B1, hB1⟩ : ∃ B, Rows.uptoBulk d1 = B := ⟨_, rfl⟩
  rw [hB1] at hb1'
  obtain ⟨a2, len2, cap2, rfl⟩ := okWide_slice Try.underlying22 (hval 2 22 v2 rfl rfl)
  obtain ⟨fuel2, t2⟩ := t2
  obtain ⟨hlc2, hcm2, hpc2, hb2, zs2, hbs2⟩ := open_bs Try.underlying22 Try.underlying5 (by kernel_rfl) t2
  have hk' := of_decide_eq_true hk
  simp only [Rows.uptoBulkAll, List.append_nil, hb0, hB1, hb2] at hk'
  refine (wends_walk  a0 len0 cap0 zs0 a1 len1 cap1 L1 a2 len2 cap2 zs2 W hbs0 hpc0 hlc0 (by omega) hbs1 hpc1 hlc1 (by omega) hbs2 hpc2 hlc2 (by omega)).mono fun e W' ⟨he, hb⟩ => ?_
  subst he
  exact ⟨_, rfl, law_post laidOut (by kernel_rfl) rfl Try.underlying4 rfl hW' rfl rfl rfl hb⟩

set_option maxRecDepth 100000 in
theorem writesEnds_lifted (os : Os) (started : os.Started) (H : Type) (enc : TypeId × Value → H) (F : Stop.Interp) :
    ReturnsInHanded {} Try.checked os 5 .any ((Rows.OpenSpec.upto Rows.writesEndsSpec).pre6 enc Try.prog Try.f5 Rows.writesEndsUptoRow.domain false) (((Rows.OpenSpec.upto Rows.writesEndsSpec).at F).post enc Try.prog Try.f5 false true false false) := by
  refine returnsInHanded_of_cond (C := Try.checked) (s := Rows.OpenSpec.upto Rows.writesEndsSpec) (k := Rows.uptoSmall) rfl own started (by kernel_rfl) Try.func5
    (OpenSpec.witness (enc := enc) (C := Try.checked) (s := Rows.OpenSpec.upto Rows.writesEndsSpec) (k := Rows.uptoSmall) rfl false ⟨#[], #[.slice none 0 0, .slice none 0 0, .slice none 0 0], []⟩ 8 (by kernel_rfl) (by kernel_rfl) (by kernel_rfl)
      (x := ([.nil, .nil, .nil], [], [])) (by kernel_rfl) rfl (by kernel_rfl)) ?_
  intro W base args ds gs before hval hW _ hk _
  exact writesEnds_contract H enc W base args ds gs before hval hW hk

theorem writesEndsUpto_holds : Rows.WritesEndsUptoSaid :=
  OpenClaim.holds_of_cond 5 Try.f5 rfl rfl rfl rfl rfl rfl rfl ⟨rfl, rfl, rfl, rfl, rfl⟩ rfl rfl rfl rfl rfl (by kernel_rfl) Try.func5 (by kernel_rfl)
    (of_decide_eq_true (by kernel_rfl)) (by unfold Func.isWrapper; first | (rw [if_pos (by decide +kernel)]; kernel_rfl) | (rw [if_neg (by decide +kernel)]; exact ⟨rfl, rfl⟩))
    (fun os started H enc _ F => writesEnds_lifted os started H enc F)
end Go.Proofs.Ytegphibgiicjpaa
