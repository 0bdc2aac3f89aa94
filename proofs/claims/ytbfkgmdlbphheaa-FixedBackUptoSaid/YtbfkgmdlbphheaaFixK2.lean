/- The statement FixedBack of layer 1, where what came in is of bulk at most 1048576: what Put and PutText wrote is what Take and TakeText read, whatever stands ahead and behind; the law returns true. -/
import Derived.Test.YtbfkgmdlbphheaaFixK
import Derived.Lib.SmallJoins
namespace Go.Proofs.Ytbfkgmdlbphheaa
set_option linter.unusedVariables false
open Go.RowKit Go.Lib Go.ChangeShapes Go.WideShapes Go.ChangeAt

theorem back_walk (p : Option Addr) (len cap : Nat) (zs : List Int) (n : Int) (s : ByteArray) (p2 : Option Addr) (len2 cap2 : Nat) (ms : List Int) (w : World) (h : Bs w p len zs) (hpc : p = none → cap = 0) (h2 : Bs w p2 len2 ms) (hpc2 : p2 = none → cap2 = 0)
    (hlc : len ≤ cap) (hcm : cap ≤ 1048576) (hlc2 : len2 ≤ cap2) (hcm2 : cap2 ≤ 1048576) (hs : s.size ≤ 1048576) (hn0 : 0 ≤ n) (hn : n < 18446744073709551616) :
    Calls Try.prog 4 #[.agg #[.slice p len cap, .int .u64 n, .string s, .slice p2 len2 cap2]] w fun e w' => e = .returned (.bool true) ∧ Below w.heap.size w w' := by
  have H := Lib.hid h
  have H2 := Lib.hid h2
  have HP := Lib.hid hpc
  have HP2 := Lib.hid hpc2
  clear h h2 hpc hpc2
  go_enter Try.func4, Try.ntmps4
  go_wp2
  go_quiet (fail)
  go_wp2_with fail
  have hb0 : Below w.heap.size w ((w.alloc (.cells #[.slice p len cap, .int .u64 n, .string s, .slice p2 len2 cap2] 31)).drewN nq) := below_drewN ((Below.refl _ _).alloc (Nat.le_refl _) _) _
  refine (put_any _ _ _ zs n 8 _ (H.out.later hb0) (by omega) hn0 hn).mono ?_
  generalize (w.alloc (.cells #[.slice p len cap, .int .u64 n, .string s, .slice p2 len2 cap2] 31)).drewN nq = w0 at hb0 ⊢
  rintro e w1 ⟨v1, rfl, hob1, hb1⟩
  rw [show putS n 8 = putN n 8 from rfl] at hob1
  have hXl : (zs ++ putN n 8).length = len + 8 := by rw [List.length_append, putN_length, H.out.len]
  obtain ⟨q1, c1, hv1, hlc1, hcm1, hbs1, hpc1⟩ := hob1.open
  rw [hXl] at hv1 hlc1 hbs1
  subst hv1
  have HB1 := Lib.hid (below_step hb0 hb1)
  have HX := Lib.hid hbs1
  have HPC := Lib.hid hpc1
  clear hob1 hb1 hb0 hXl hbs1 hpc1
  go_wp2_with fail
  refine (putText_any _ _ _ (zs ++ putN n 8) s _ HX.out (by omega) (by unfold maxLen; omega)).mono ?_
  rintro e w2 ⟨v2, rfl, hob2, hb2⟩
  have hYl : (zs ++ putN n 8 ++ textP s).length ≤ 1048576 + 8 + 256 := by
    rw [List.length_append, HX.out.len, textP]
    split
    · rw [List.length_cons, numsOf_length]; omega
    · simp; omega
  obtain ⟨q2, c2, hv2, hlc2, hcm2, hbs2, hpc2⟩ := hob2.open
  have hYl' := hYl
  rw [← hbs2.len] at hYl
  generalize hY : zs ++ putN n 8 ++ textP s = Y at *
  generalize hyl : Y.length = yl at *
  subst hv2
  have HY := Lib.hid hY
  have HYl := Lib.hid hyl
  have HB2 := Lib.hid (below_step HB1.out hb2)
  have H1' := Lib.hid (H.out.later HB2.out)
  have H2' := Lib.hid (H2.out.later HB2.out)
  have HBY := Lib.hid hbs2
  have HXX := Lib.hid (HX.out.later hb2)
  have HPC2 := Lib.hid hpc2
  clear hob2 hb2 hbs2 hpc2 hY hyl HX HB1 hYl
  have hy1 : ([] : List Int).length + yl ≤ 140737488355328 := by simp; omega
  have hy2 : (([] : List Int) ++ Y).length + len2 ≤ 140737488355328 := by rw [List.nil_append, HYl.out]; omega
  have HY1 := Lib.hid hy1
  have HY2 := Lib.hid hy2
  clear hy1 hy2
  go_wp2_with (first | (refine wpList_append_bytes rfl (.tmp 32) (.tmp 33) 22 5 rfl Try.underlying22 info8 w2.heap.size _ [] rfl (ob_lit w2 _ _ [] 0 rfl (Nat.zero_le _) (by simp) rfl) q2 yl c2 Y rfl (HBY.out.later ((Below.refl _ _).alloc (Nat.le_refl _) _)) HPC2.out HY1.out (by simp) ?_; intro v3 w3 hob3 hg3; have hgr3 : w2.heap.size ≤ w3.heap.size := by { have := hg3.size; simp at this; omega }; have HB3 := Lib.hid (below_new ((Below.refl _ w2).alloc (Nat.le_refl _) _) (ob_lit w2 5 _ [] 0 rfl (Nat.zero_le _) (by simp) rfl) hg3 (by simp)); have HO3 := Lib.hid hob3; clear hg3 hob3) | (refine wpList_append_bytes rfl (.tmp 34) (.tmp 35) 22 5 rfl Try.underlying22 info8 w2.heap.size _ ([] ++ Y) rfl HO3.out p2 len2 cap2 ms rfl (H2'.out.later HB3.out) HP2.out HY2.out hgr3 ?_; intro v4 w4 hob4 hg4; have HB4 := Lib.hid (below_new HB3.out HO3.out hg4 hgr3); have HO4 := Lib.hid hob4; clear hg4 hob4))
  obtain ⟨q4, c4, hv4, hlc4, hcm4, hbs4, hpc4⟩ := HO4.out.open
  generalize hZ : [] ++ Y ++ ms = Z at *
  generalize hzl : Z.length = zl at *
  subst hv4
  have hZ' : Z = zs ++ putN n 8 ++ (textP s ++ ms) := by rw [← hZ, List.nil_append, ← HY.out, List.append_assoc]
  have hzs := H.out.len
  have hnum := back_num zs (textP s ++ ms) n hn0 hn
  rw [← hZ', hzs] at hnum
  have hzl8 : len + 8 ≤ zl := by
    rw [← hzl, hZ']
    simp only [List.length_append, putN_length, hzs]
    omega
  have hzm : zl ≤ maxLen := Nat.le_trans hlc4 hcm4
  have hzm' := hzm
  unfold maxLen at hzm'
  obtain ⟨b4, o4, rfl⟩ : ∃ b o, q4 = some ⟨b, o, none⟩ := by
    rcases hbs4.2.2 with h0 | ⟨b, o, h, _⟩
    · omega
    · exact ⟨b, o, h⟩
  have hsame : Bs w4 (some ⟨b4, o4, none⟩) len zs := by
    have := hbs4.take len (by omega)
    rw [hZ', ← hzs, List.append_assoc, List.take_left] at this
    rw [← hzs]; exact this
  have hbB : Bs w4 p len zs := H1'.out.later HB4.out
  have hsl := run_slice_to (P := Try.prog) w4 22 5 Try.underlying22 (fun _ => by kernel_rfl) b4 o4 zl c4 len (by omega)
  have HS := Lib.hid hsame
  have HBB := Lib.hid hbB
  have HN := Lib.hid hnum
  have HZ := Lib.hid hZ'
  have HZB := Lib.hid hbs4
  have HZS := Lib.hid hzs
  have HZL := Lib.hid hzl
  have HCM := Lib.hid hcm4
  clear hsame hbB hnum hZ' hbs4 hzs hZ hpc4 hcm4 HO4 HO3 hzl
  go_wp2_with fail
  refine (take_any _ _ _ Z _ _ _ HZB.out hzm (by omega)).mono ?_
  rintro e w' ⟨rfl, rfl⟩
  rw [HN.out.1, HN.out.2]
  go_wp2_with fail
  refine (same_any _ _ _ _ _ _ zs zs _ (by unfold maxLen; omega) (by unfold maxLen; omega) HS.out HBB.out).mono ?_
  rintro e w' ⟨rfl, q, rfl⟩
  rw [show decide (zs = zs) = true from by simp]
  have HB5 := Lib.hid (below_step HB2.out (below_drewN HB4.out q))
  by_cases h255 : s.size ≤ 255
  · rw [show decide (s.size ≤ 255) = true from by simpa using h255]
    have htx := back_text (zs ++ putN n 8) ms s h255
    rw [List.append_assoc (zs ++ putN n 8), ← HZ.out] at htx
    have hXl : ((zs ++ putN n 8).length : Int) = (len : Int) + 8 := by rw [List.length_append, putN_length, HZS.out]; omega
    rw [hXl] at htx
    have hd : decide ((s.size : Int) ≤ 255) = true := by simp; omega
    have HT := Lib.hid htx
    clear htx hXl
    go_wp2_with fail
    refine (text_any _ _ _ Z ((len : Int) + 8) _ (HZB.out.later (below_drewN (Below.refl _ _) q)) hlc4 HCM.out (by omega)).mono ?_
    rintro e w' ⟨rfl, rfl⟩
    rw [HT.out.1, HT.out.2.1, HT.out.2.2]
    go_wp2_with (refine (lives_any _).mono ?_; rintro e w' ⟨rfl, hb⟩)
    go_ret
    exact ⟨rfl, below_step HB5.out hb⟩
  · rw [show decide (s.size ≤ 255) = false from by simpa using h255]
    go_wp2_with fail
    refine (text_any _ _ _ Z ((len : Int) + 8) _ (HZB.out.later (below_drewN (Below.refl _ _) q)) hlc4 HCM.out (by omega)).mono ?_
    rintro e w' ⟨rfl, rfl⟩
    generalize strOfNums (textS Z _) = t
    generalize textE Z _ = stop
    generalize textB Z _ = has
    go_wp2_with (refine (lives_any _).mono ?_; rintro e w' ⟨rfl, hb⟩)
    go_ret
    exact ⟨rfl, below_step HB5.out hb⟩

theorem back_contract (H : Type) (enc : TypeId × Value → H) (W : World) (base : Nat) (args : Array Value) (ds gs : List (DataW H)) (before : List MemPlace)
    (hval : ∀ (j : Nat) t v, Try.f4.params[j]? = some t → args[j]? = some v → Value.okWide Try.prog W .any base t v)
    (hW : DataW.Whole enc Try.prog Try.f4.params.toList Rows.fixedBackSpec.vars false W args.toList ds gs before) (hk : Rows.uptoSmall H (ds ++ gs) = true) :
    Calls Try.prog 4 args W fun e W' => ∃ v, e = .returned v ∧ Rows.fixedBackSpec.post enc Try.prog Try.f4 false true false false W args v W' := by
  have hW' := hW
  obtain ⟨p, q, hA0, hV, rfl, hfz, hnd⟩ := hW
  have hA : DataW.TrodAll enc Try.prog W 0 (fun _ => true) true Try.f4.params.toList args.toList ds p := hA0
  rw [Try.params4] at hA hval
  obtain ⟨v0, vs0, d0, ds0, p0, q0, hargs, rfl, rfl, h0, r0⟩ := trodAll_cons hA
  obtain ⟨rfl, rfl, rfl⟩ := trodAll_nil r0
  obtain rfl : args = #[v0] := by cases args; simp_all
  obtain ⟨rfl, rfl⟩ := trodVars_none hV
  obtain ⟨x0, x1, x2, x3, y0, y1, y2, y3, n, rfl, rfl, _, t0, t1, t2, t3⟩ := Joins.open_agg4 Try.underlying31 (by kernel_rfl) (by kernel_rfl) (hval 0 31 v0 rfl rfl) h0
  obtain ⟨a0, len, cap, zs, rfl, hlc, hcm, hpc, hb0, hbs⟩ := open_bs' Try.underlying22 Try.underlying5 (by kernel_rfl) t0
  obtain ⟨m, rfl, wm⟩ := open_int' Try.underlying23 t1
  obtain ⟨s, rfl, hs, hb2⟩ := open_str' Try.underlying9 t2
  obtain ⟨a3, len3, cap3, ms, rfl, hlc3, hcm3, hpc3, hb3, hbs3⟩ := open_bs' Try.underlying22 Try.underlying5 (by kernel_rfl) t3
  have hk' := of_decide_eq_true hk
  simp only [Rows.uptoBulkAll, Rows.uptoBulk, List.append_nil, hb0, hb2, hb3] at hk'
  refine (back_walk a0 len cap zs m s a3 len3 cap3 ms W hbs hpc hbs3 hpc3 hlc (by omega) hlc3 (by omega) (by omega) (wf_u64 wm).1 (wf_u64 wm).2).mono fun e W' ⟨he, hb⟩ => ?_
  subst he
  exact ⟨_, rfl, law_post laidOut (by kernel_rfl) rfl Try.underlying4 rfl hW' rfl rfl rfl hb⟩

set_option maxRecDepth 100000 in
theorem back_lifted (os : Os) (started : os.Started) (H : Type) (enc : TypeId × Value → H) (F : Stop.Interp) :
    ReturnsInHanded {} Try.checked os 4 .any ((Rows.OpenSpec.upto Rows.fixedBackSpec).pre6 enc Try.prog Try.f4 Rows.fixedBackUptoRow.domain false) (((Rows.OpenSpec.upto Rows.fixedBackSpec).at F).post enc Try.prog Try.f4 false true false false) := by
  refine returnsInHanded_of_cond (C := Try.checked) (s := Rows.OpenSpec.upto Rows.fixedBackSpec) (k := Rows.uptoSmall) rfl own started (by kernel_rfl) Try.func4
    (OpenSpec.witness (enc := enc) (C := Try.checked) (s := Rows.OpenSpec.upto Rows.fixedBackSpec) (k := Rows.uptoSmall) rfl false ⟨#[], #[.agg #[.slice none 0 0, .int .u64 0, .string ⟨#[]⟩, .slice none 0 0]], []⟩ 8 (by kernel_rfl) (by kernel_rfl) (by kernel_rfl)
      (x := ([.agg [.nil, .lit (.int .u64 0), .lit (.string []), .nil]], [], [])) (by kernel_rfl) rfl (by kernel_rfl)) ?_
  intro W base args ds gs before hval hW _ hk _
  exact back_contract H enc W base args ds gs before hval hW hk

theorem fixedBackUpto_holds : Rows.FixedBackUptoSaid :=
  OpenClaim.holds_of_cond 4 Try.f4 rfl rfl rfl rfl rfl rfl rfl ⟨rfl, rfl, rfl, rfl, rfl⟩ rfl rfl rfl rfl rfl (by kernel_rfl) Try.func4 (by kernel_rfl)
    (of_decide_eq_true (by kernel_rfl)) (by unfold Func.isWrapper; first | (rw [if_pos (by decide +kernel)]; kernel_rfl) | (rw [if_neg (by decide +kernel)]; exact ⟨rfl, rfl⟩))
    (fun os started H enc _ F => back_lifted os started H enc F)
end Go.Proofs.Ytbfkgmdlbphheaa
