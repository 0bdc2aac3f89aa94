/- Layer 13, the program: Make; bytes.Clone; Parse. -/
import Derived.Test.YtfpelocemceffaaFraC
import Derived.Test.YtfpelocemceffaaBCl
namespace Go.Proofs.Ytfpelocemceffaa
set_option linter.unusedVariables false
open Go.RowKit Go.Lib

theorem putN_mod (n m : Int) (s : Nat) (h : ∀ j, j < s → n / 256 ^ j % 256 = m / 256 ^ j % 256) : putN n s = putN m s := by
  induction s with
  | zero => rfl
  | succ s ih => rw [putN, putN, ih (fun j hj => h j (by omega)), h s (by omega)]
theorem putN_one (n : Int) : putN n 1 = [n % 256] := by simp [putN]

set_option maxRecDepth 100000 in
theorem fstart_any (k s z : Int) (w : World) (hk : 0 ≤ k ∧ k < 18446744073709551616) (hs : 0 ≤ s ∧ s < 18446744073709551616) (hz : 0 ≤ z ∧ z < 18446744073709551616) :
    Calls Try.prog 27 #[hdV k s z] w fun e w' => ∃ v, e = .returned v ∧ Ob w' w.heap.size 5 v (frmH k s z) ∧ Below w.heap.size w w' := by
  have HB0 : Hid (Below w.heap.size w (w.alloc (.cells #[.int .u64 k, .int .u64 s, .int .u64 z] 46))) := Lib.hid ((Below.refl _ _).alloc (Nat.le_refl _) _)
  have HX : Hid ((w.alloc (.cells #[.int .u64 k, .int .u64 s, .int .u64 z] 46)).heap[w.heap.size]? = some (.cells #[.int .u64 k, .int .u64 s, .int .u64 z] 46 (0, 0))) := Lib.hid (heap_alloc_new _ _)
  have H1 := Lib.hid (putS_n k 1 (by omega) (by omega))
  have H2 := Lib.hid (putS_n s 8 (by omega) (by omega))
  have H3 := Lib.hid (putS_n z 4 (by omega) (by omega))
  have HF : Hid (frmH k s z = sealN (([] ++ putS k 1) ++ putS s 8 ++ putS z 4)) := Lib.hid (by rw [show putS k 1 = putN k 1 from H1.out, show putS s 8 = putN s 8 from H2.out, show putS z 4 = putN z 4 from H3.out]; rfl)
  have hl1 : (([] : List Int) ++ putS k 1).length = 1 := by rw [show putS k 1 = putN k 1 from H1.out]; simp [putN_length]
  have hl2 : (([] : List Int) ++ putS k 1 ++ putS s 8).length = 9 := by rw [List.length_append, hl1, show putS s 8 = putN s 8 from H2.out, putN_length]
  have hl3 : (([] : List Int) ++ putS k 1 ++ putS s 8 ++ putS z 4).length = 13 := by rw [List.length_append, hl2, show putS z 4 = putN z 4 from H3.out, putN_length]
  rw [HF.out]
  have HL1 := Lib.hid hl1
  have HL2 := Lib.hid hl2
  have HL3 := Lib.hid hl3
  have HN := Lib.hid (Bs.empty w none)
  clear H1 H2 H3 HF hl1 hl2 hl3
  unfold hdV
  go_enter Try.func27, Try.ntmps27
  go_wp2_with (first
    | (go_at_call 30; (fail_if_success (have hh := HB1.out)); refine (put_any none 0 0 [] k 1 _ (Bs.empty _ none) (by omega) hk.1 hk.2).mono ?_; rintro e w1 ⟨v1, rfl, ho1, hb1⟩; obtain ⟨p1, c1, hv1, hlc1, hcm1, hbs1, hpc1⟩ := ho1.open; subst hv1; rw [HL1.out] at hlc1 hbs1 ⊢; have HB1 := Lib.hid (below_step HB0.out hb1); have HX1 := Lib.hid (row_later HX.out hb1); have HD1 := Lib.hid hbs1; obtain ⟨x0, x1, x2, _⟩ := row3 HX1.out; clear ho1 hb1 hbs1)
    | (go_at_call 30; (fail_if_success (have hh := HB2.out)); refine (put_any _ 1 _ _ s 8 _ HD1.out (by omega) hs.1 hs.2).mono ?_; rintro e w2 ⟨v2, rfl, ho2, hb2⟩; obtain ⟨p2, c2, hv2, hlc2, hcm2, hbs2, hpc2⟩ := ho2.open; subst hv2; rw [HL2.out] at hlc2 hbs2 ⊢; have HB2 := Lib.hid (below_step HB1.out hb2); have HX2 := Lib.hid (row_later HX1.out hb2); have HD2 := Lib.hid hbs2; obtain ⟨y0, y1, y2, _⟩ := row3 HX2.out; clear ho2 hb2 hbs2)
    | (go_at_call 30; refine (put_any _ 9 _ _ z 4 _ HD2.out (by omega) hz.1 hz.2).mono ?_; rintro e w3 ⟨v3, rfl, ho3, hb3⟩; obtain ⟨p3, c3, hv3, hlc3, hcm3, hbs3, hpc3⟩ := ho3.open; subst hv3; rw [HL3.out] at hlc3 hbs3 ⊢; have HB3 := Lib.hid (below_step HB2.out hb3); have HD3 := Lib.hid hbs3; clear ho3 hb3 hbs3)
    | (go_at_call 26; refine (fsealed_any _ 13 _ _ _ HD3.out (by omega)).mono ?_; rintro e w4 ⟨v4, rfl, ho4, hb4⟩; have HO4 := Lib.hid (ho4.mono HB3.out.size); have HB4 := Lib.hid (below_step HB3.out hb4); clear ho4 hb4))
  go_ret
  exact ⟨_, rfl, HO4.out, HB4.out⟩

set_option maxRecDepth 100000 in
set_option maxHeartbeats 1000000 in
theorem fwhole_any (k s z : Int) (p : Option Addr) (n c : Nat) (zs : List Int) (w : World) (h : Bs w p n zs) (hpc : p = none → c = 0) (hn : n ≤ 4194304) (hk : 0 ≤ k ∧ k < 18446744073709551616) (hs : 0 ≤ s ∧ s < 18446744073709551616) (hz : 0 ≤ z ∧ z < 18446744073709551616) :
    Calls Try.prog 21 #[ptV k s z p n c] w fun e w' => ∃ v, e = .returned v ∧ Ob w' w.heap.size 5 v (sealN (frmH k s z ++ zs)) ∧ Below w.heap.size w w' := by
  have HB0 : Hid (Below w.heap.size w (w.alloc (.cells #[.int .u64 k, .int .u64 s, .int .u64 z, .slice p n c] 48))) := Lib.hid ((Below.refl _ _).alloc (Nat.le_refl _) _)
  have HX : Hid ((w.alloc (.cells #[.int .u64 k, .int .u64 s, .int .u64 z, .slice p n c] 48)).heap[w.heap.size]? = some (.cells #[.int .u64 k, .int .u64 s, .int .u64 z, .slice p n c] 48 (0, 0))) := Lib.hid (heap_alloc_new _ _)
  have H := Lib.hid h
  have HP := Lib.hid hpc
  have hzl := h.len
  have HL : Hid ((frmH k s z).length + n ≤ 140737488355328) := Lib.hid (by rw [frmH_length]; omega)
  have HL2 : Hid ((frmH k s z ++ zs).length ≤ 140737488351232) := Lib.hid (by rw [List.length_append, frmH_length]; omega)
  have HS := Lib.hid fun W => fstart_any k s z W hk hs hz
  generalize frmH k s z = fh at *
  obtain ⟨L, hLL⟩ : ∃ L, (fh ++ zs).length = L := ⟨_, rfl⟩
  rw [hLL] at HL2
  have HLL := Lib.hid hLL
  clear h hpc hzl hk hs hz hLL
  unfold ptV
  unfold hdV at HS
  obtain ⟨wA, hA⟩ : ∃ W, w.alloc (.cells #[.int .u64 k, .int .u64 s, .int .u64 z, .slice p n c] 48) = W := ⟨_, rfl⟩
  rw [hA] at HB0 HX
  have HB0' := Lib.hid HB0.out.drew
  obtain ⟨a0, a1, a2, a3, _⟩ := row4 HX.out
  have HXD := Lib.hid (row_later HX.out (Below.refl _ _).drew)
  obtain ⟨b0, b1, b2, b3, _⟩ := row4 HXD.out
  go_enter Try.func21, Try.ntmps21
  go_wp2_with fail
  go_region_law (first
    | (go_simp; go_at_call 27; refine (HS.out _).mono ?_; rintro e w1 ⟨v1, rfl, ho1, hb1⟩; have HO1 := Lib.hid ho1; have HB1 := Lib.hid hb1; have HX1 := Lib.hid (row_later HXD.out hb1); obtain ⟨c0, c1, c2, c3, _⟩ := row4 HX1.out; have HZ1 := Lib.hid (H.out.later (below_step HB0'.out HB1.out)); clear ho1 hb1)
    | (refine step_append_bytes rfl (.tmp 5) (.tmp 7) 22 5 rfl Try.underlying22 info8 wA.drew.heap.size _ fh rfl HO1.out p n c zs rfl HZ1.out HP.out HL.out HB1.out.size ?_; intro v2 w2 ho2 hg2; have HB2 := Lib.hid (below_new HB1.out HO1.out hg2 HB1.out.size); obtain ⟨p2, c2, hv2, hlc2, hcm2, hbs2, hpc2⟩ := ho2.open; rw [HLL.out] at hv2 hlc2 hbs2; subst hv2; have HD2 := Lib.hid hbs2; clear ho2 hg2 hbs2)
    | (go_simp; go_at_call 26; refine (fsealed_any _ _ _ _ _ HD2.out HL2.out).mono ?_; rintro e w4 ⟨v4, rfl, ho4, hb4⟩; have HO4 := Lib.hid ((ho4.mono HB2.out.size).mono HB0'.out.size); have HB4 := Lib.hid (below_step HB2.out hb4); have HB5 := Lib.hid (below_step HB0'.out HB4.out); clear ho4 hb4))
  all_goals go_wp2
  all_goals go_ret
  all_goals exact ⟨_, rfl, HO4.out, HB5.out⟩

theorem frmH_wrap (k s z : Int) : frmH (k % 18446744073709551616) s z = frmH k s z := by
  have e : putN (k % 18446744073709551616) 1 = putN k 1 := by rw [putN_one, putN_one]; congr 1; omega
  unfold frmH frmS
  rw [e]

set_option maxRecDepth 100000 in
theorem fmake_any (k s : Int) (p : Option Addr) (n c : Nat) (zs : List Int) (w : World) (h : Bs w p n zs) (hpc : p = none → c = 0) (hn : n ≤ 4194304) (hs : 0 ≤ s ∧ s < 18446744073709551616) :
    Calls Try.prog 10 #[.int .i64 k, .int .u64 s, .slice p n c] w fun e w' => ∃ v, e = .returned v ∧ Ob w' w.heap.size 5 v (frmN k s zs) ∧ Below w.heap.size w w' := by
  have hwk : IntKind.u64.wrap k = k % 18446744073709551616 := by simp [IntKind.wrap, IntKind.bits, IntKind.signed]
  have hwn : IntKind.u64.wrap (n : Int) = (n : Int) := wrap_u64_in (by omega) (by omega)
  have HW := fwhole_any (k % 18446744073709551616) s (n : Int) p n c zs w h hpc hn (by omega) hs (by omega)
  have hzl := h.len
  rw [frmH_wrap, ← hzl] at HW
  have HW := Lib.hid HW
  unfold frmN
  generalize sealN (frmH k s zs.length ++ zs) = R at *
  unfold ptV at HW
  rw [hzl] at HW
  clear h hpc hzl
  go_enter Try.func10, Try.ntmps10
  go_wp2_with (go_at_call 21; refine HW.out.mono ?_; rintro e w1 ⟨v1, rfl, ho1, hb1⟩; have HO1 := Lib.hid ho1; have HB1 := Lib.hid hb1; clear ho1 hb1)
  go_ret
  exact ⟨_, rfl, HO1.out, HB1.out⟩
end Go.Proofs.Ytfpelocemceffaa
