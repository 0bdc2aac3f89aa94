/- Layer 13, the program: number, sealed, unsealed, Size, a head's length. -/
import Derived.Test.YtfpelocemceffaaFraP
import Derived.Test.YtfpelocemceffaaFixV
import Derived.Test.YtfpelocemceffaaCrcW2
namespace Go.Proofs.Ytfpelocemceffaa
set_option linter.unusedVariables false
open Go.RowKit Go.Lib

theorem putS_n (n : Int) (s : Nat) (h1 : 1 ≤ s) (h8 : s ≤ 8) : putS n (s : Int) = putN n s := by
  unfold putS
  rw [if_pos (by simp [isSizeB]; omega), Int.toNat_natCast]
theorem takeN_n (zs : List Int) (a s : Nat) (h1 : 1 ≤ s) (h8 : s ≤ 8) (h : a + s ≤ zs.length) : takeN zs (a : Int) (s : Int) = leN zs a s := by
  unfold takeN
  rw [if_pos (by simp [takeB, isSizeB, holdsB]; omega), Int.toNat_natCast, Int.toNat_natCast]

theorem fnumber_any (p : Option Addr) (len cap : Nat) (zs : List Int) (a s : Int) (w : World) (h : Bs w p len zs) (hlen : len ≤ maxLen) (ha : -9223372036854775808 ≤ a ∧ a ≤ 9223372036854775807) :
    Calls Try.prog 28 #[.slice p len cap, .int .i64 a, .int .i64 s] w fun e w' => e = .returned (.int .u64 (takeN zs a s)) ∧ w = w' := by
  have H := Lib.hid h
  clear h
  go_enter Try.func28, Try.ntmps28
  go_wp2_with (go_at_call 31; refine (take_any _ _ _ zs _ _ _ H.out hlen ha).mono ?_; rintro e w' ⟨rfl, rfl⟩)
  go_ret
  exact ⟨rfl, rfl⟩

theorem fsize_any (n : Nat) (w : World) (hn : n ≤ 140737488355328) :
    Calls Try.prog 13 #[.int .i64 (n : Int)] w fun e w' => e = .returned (.int .i64 ((n : Int) + 21)) ∧ w = w' := by
  go_enter Try.func13, Try.ntmps13
  go_wp2
  go_ret
  exact ⟨ret_int (by omega), rfl⟩

/-- a head, as a value -/
def hdV (k s z : Int) : Value := .agg #[.int .u64 k, .int .u64 s, .int .u64 z]

theorem hlength_any (k s : Int) (n : Nat) (w : World) (hn : n ≤ 4294967296) :
    Calls Try.prog 18 #[hdV k s (n : Int)] w fun e w' => e = .returned (.int .i64 ((n : Int) + 21)) ∧ Below w.heap.size w w' := by
  have HB0 : Hid (Below w.heap.size w (w.alloc (.cells #[.int .u64 k, .int .u64 s, .int .u64 (n : Int)] 46))) := Lib.hid ((Below.refl _ _).alloc (Nat.le_refl _) _)
  unfold hdV
  go_enter Try.func18, Try.ntmps18
  go_wp2_with (go_at_call 13; refine (fsize_any n _ (by omega)).mono ?_; rintro e w' ⟨rfl, rfl⟩)
  go_ret
  exact ⟨rfl, HB0.out⟩

set_option maxRecDepth 100000 in
theorem fsealed_any (p : Option Addr) (len cap : Nat) (zs : List Int) (w : World) (h : Bs w p len zs) (hlen : len ≤ 140737488351232) :
    Calls Try.prog 26 #[.slice p len cap] w fun e w' => ∃ v, e = .returned v ∧ Ob w' w.heap.size 5 v (sealN zs) ∧ Below w.heap.size w w' := by
  have H := Lib.hid h
  have hm : len ≤ maxLen := by unfold maxLen; omega
  have HP := Lib.hid (putS_n (crcN zs : Nat) 4 (by omega) (by omega))
  have HL := Lib.hid (crcN_lt zs)
  unfold sealN
  rw [← HP.out]
  obtain ⟨s, hs0⟩ : ∃ s, crcN zs = s := ⟨_, rfl⟩
  have HS := Lib.hid hs0
  rw [hs0] at HL ⊢
  have hs := HL.out
  clear h HP hs0
  go_enter Try.func26, Try.ntmps26
  go_wp2_with (first
    | (go_at_call 29; refine (csum_any p len cap zs _ H.out hm).mono ?_; rintro e w1 ⟨rfl, hb1⟩; rw [HS.out]; have HB1 := Lib.hid hb1; clear hb1)
    | (go_at_call 30; refine (put_any p len cap zs (s : Int) 4 _ (H.out.later HB1.out) hlen (by omega) (by omega)).mono ?_; rintro e w2 ⟨v2, rfl, ho2, hb2⟩; have HO2 := Lib.hid (ho2.mono HB1.out.size); have HB2 := Lib.hid (below_step HB1.out hb2); clear ho2 hb2))
  go_ret
  exact ⟨_, rfl, HO2.out, HB2.out⟩

set_option maxRecDepth 100000 in
theorem funsealed_any (b off n cap : Nat) (zs : List Int) (w : World) (h : Bs w (some ⟨b, off, none⟩) (n + 4) zs) (hlc : n + 4 ≤ cap) (hlen : n + 4 ≤ 140737488351232) :
    Calls Try.prog 24 #[.slice (some ⟨b, off, none⟩) (n + 4) cap] w fun e w' => e = .returned (.tuple #[if okN zs n then .slice (some ⟨b, off, none⟩) n cap else .slice none 0 0, .bool (okN zs n)]) ∧ Below w.heap.size w w' := by
  have H := Lib.hid h
  have hm : n + 4 ≤ maxLen := by unfold maxLen; omega
  have hm' : n ≤ maxLen := by unfold maxLen; omega
  have hz := h.len
  have HT := Lib.hid (h.take n (by omega))
  have HK : Hid (takeN zs (n : Int) 4 = leN zs n 4) := Lib.hid (takeN_n zs n 4 (by omega) (by omega) (by omega))
  have hsl := fun W => run_slice_to (P := Try.prog) W 22 5 Try.underlying22 (fun _ => by kernel_rfl) b off (n + 4) cap n (by omega)
  have hw : IntKind.i64.wrap (((n + 4 : Nat) : Int) - 4) = (n : Int) := by simp [IntKind.wrap, IntKind.bits, IntKind.signed]; omega
  have HOK : Hid (okN zs n = decide (leN zs n 4 = (crcN (zs.take n) : Nat))) := Lib.hid rfl
  have HBY := leN_bd zs h.byte n 4
  generalize leN zs n 4 = x at *
  generalize okN zs n = o at *
  obtain ⟨s, hs⟩ : ∃ s, crcN (zs.take n) = s := ⟨_, rfl⟩
  have hsl2 := crcN_lt (zs.take n)
  rw [hs] at HOK hsl2
  have HS := Lib.hid hs
  obtain ⟨wd, hwd⟩ : ∃ W, w.drew = W := ⟨_, rfl⟩
  have HBD : Hid (Below w.heap.size w wd) := Lib.hid (by rw [← hwd]; exact (Below.refl _ _).drew)
  have HD := Lib.hid (H.out.later HBD.out)
  have HTD := Lib.hid (HT.out.later HBD.out)
  have hws : IntKind.u64.wrap (s : Int) = (s : Int) := wrap_u64_in (by omega) (by omega)
  have hne : (x != (s : Int)) = !o := by
    rw [HOK.out, Bool.eq_iff_iff]
    simp
  clear h hs hz HOK
  go_enter Try.func24, Try.ntmps24
  go_wp2
  go_region_held3 (fun _ => True) (trivial) (first
    | (go_at_call 28; refine (fnumber_any _ _ _ zs _ _ _ (by first | exact HD.out | exact HD1.out) hm (by omega)).mono ?_; rintro e w' ⟨rfl, rfl⟩; rw [HK.out])
    | (go_at_call 29; refine (csum_any _ n cap (zs.take n) _ HTD.out hm').mono ?_; rintro e w1 ⟨rfl, hb1⟩; rw [HS.out]; have HD1 := Lib.hid (HD.out.later hb1); have HB1 := Lib.hid (below_step HBD.out hb1); clear hb1))
  all_goals (cases o <;> (go_wp2; go_ret2; exact ⟨rfl, HB1.out⟩))
end Go.Proofs.Ytfpelocemceffaa
