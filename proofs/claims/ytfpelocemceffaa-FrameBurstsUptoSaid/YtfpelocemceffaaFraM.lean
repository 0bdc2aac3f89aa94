/- Layer 13, the law: lives. -/
import Derived.Test.YtfpelocemceffaaFraL
import Derived.Lib.SlBytesConst
namespace Go.Proofs.Ytfpelocemceffaa
set_option linter.unusedVariables false
open Go.RowKit Go.Lib

/-- a frame that was made is parsed, wherever it stands -/
theorem ps_made (az es data : List Int) (k s : Int) (m n : Nat) (hm : az.length = m) (hn : data.length = n) (hk : 1 ≤ k) (hk8 : k ≤ 8) (hn6 : n ≤ 65536) (hs0 : 0 ≤ s) (hs : s < 18446744073709551616) :
    psE (az ++ frmN k s data ++ es) (m : Int) = 0 ∧ psF (az ++ frmN k s data ++ es) (m : Int) = ⟨k, s, data, (m : Int) + 21 + n⟩ := by
  have hd : (az ++ frmN k s data ++ es).drop m = frmN k s data ++ es := by rw [List.append_assoc, ← hm, List.drop_left]
  have hl : (az ++ frmN k s data ++ es).length = m + (n + 21) + es.length := by rw [List.length_append, List.length_append, frmN_length, hm, hn]
  have hE : psE (az ++ frmN k s data ++ es) (m : Int) = 0 := by
    unfold psE
    rw [if_neg (by rw [hl]; omega), Int.toNat_natCast, hd, frm_back k s data es n hn hk hk8 hn6]
  refine ⟨hE, ?_⟩
  unfold psF
  rw [if_pos hE, Int.toNat_natCast, hd]
  have hz : leN (frmN k s data ++ es) 9 4 = n := by rw [frmN_split, frmS_size _ _ _ _ (by omega) (by omega), hn]
  rw [hz, Int.toNat_natCast, frmN_data k s data es n hn]
  have h1 : leN (frmN k s data ++ es) 0 1 = k := by rw [frmN_split, frmS_kind]; omega
  have h2 : leN (frmN k s data ++ es) 1 8 = s := by rw [frmN_split, frmS_seq _ _ _ _ hs0 hs]
  rw [h1, h2]

def xyZ : List Int := [120, 121]
theorem xy_bytes : ∀ j, 0 ≤ xyZ.getD j 0 ∧ xyZ.getD j 0 < 256 := by
  intro j
  match j with
  | 0 => decide
  | 1 => decide
  | j + 2 => simp [xyZ]
theorem xy_str : strOfNums xyZ = (⟨#[120, 121]⟩ : ByteArray) := rfl

set_option maxRecDepth 100000 in
set_option maxHeartbeats 1000000 in
theorem flives_any (w : World) : Calls Try.prog 9 #[] w fun e w' => e = .returned (.bool true) ∧ Below w.heap.size w w' := by
  have kc := fun (w : World) (C : Array Value) (n c : Nat) => Lib.run_convert_bytes_const (P := Try.prog) w 22 5 C n c Try.underlying22 Try.underlying5
  have HBS := Lib.hid (bs_lit_fr w 5 #[.int .u8 120, .int .u8 121] (2, 3) xyZ 2 rfl xy_bytes rfl)
  have HB0 : Hid (Below w.heap.size w (w.alloc (.cells #[.int .u8 120, .int .u8 121] 5 (2, 3)))) := Lib.hid ((Below.refl _ _).alloc (Nat.le_refl _) _)
  have HPS : Hid (psE (frmN 2 7 xyZ) 0 = 0 ∧ psF (frmN 2 7 xyZ) 0 = ⟨2, 7, xyZ, 23⟩) := Lib.hid (by
    have := ps_made [] [] xyZ 2 7 0 2 rfl rfl (by omega) (by omega) (by omega) (by omega) (by omega)
    rw [List.nil_append, List.append_nil] at this
    exact this)
  have HFL : Hid ((frmN 2 7 xyZ).length = 23) := Lib.hid (by rw [frmN_length]; rfl)
  obtain ⟨F, hF⟩ : ∃ F, frmN 2 7 xyZ = F := ⟨_, rfl⟩
  have HF := Lib.hid hF
  rw [hF] at HPS HFL
  have hm : (23 : Nat) ≤ 4194304 := by omega
  clear hF
  go_enter Try.func9, Try.ntmps9
  go_wp2_with (first
    | (go_at_call 10; refine (fmake_any 2 7 (some ⟨w.heap.size, 0, none⟩) 2 _ xyZ _ HBS.out (fun h => by cases h) (by omega) (by omega)).mono ?_; rintro e w2 ⟨v2, rfl, ho2, hb2⟩; rw [HF.out] at ho2; have HB2 := Lib.hid (below_step HB0.out hb2); obtain ⟨p2, c2, hv2, hlc2, hcm2, hbs2, hpc2⟩ := ho2.open; rw [HFL.out] at hv2 hlc2 hbs2; subst hv2; have HD2 := Lib.hid hbs2; have HP2 := Lib.hid hpc2; have HL2 := Lib.hid hlc2; clear ho2 hb2 hbs2 hpc2 hlc2 hcm2)
    | (go_at_call 6; (refine (fparse_any p2 23 c2 F 0 _ HD2.out HP2.out HL2.out hm (by omega)).mono ?_; rintro e w3 ⟨q3, n3, c3, rfl, hd3, hn3, hc3, hp3, hb3⟩; rw [HPS.out.2] at hd3; rw [HPS.out.1, HPS.out.2]; dsimp only at hd3; have hl3 := hd3.len; obtain rfl : n3 = 2 := by { rw [← hl3]; rfl }; unfold frV; dsimp only; have HB3 := Lib.hid (below_step HB2.out hb3); have HBE := Lib.hid (HB3.out.alloc HB3.out.size (.cells #[.int .i64 2, .int .u64 7, .slice q3 2 c3, .int .i64 23] 25)); have hcv := (hd3.later ((Below.refl _ _).alloc (Nat.le_refl _) (.cells #[.int .i64 2, .int .u64 7, .slice q3 2 c3, .int .i64 23] 25))).run_string (P := Try.prog) 22 5 9 Try.underlying22 Try.underlying5 Try.underlying9 c3; rw [xy_str] at hcv; clear hb3 hn3 hc3 hp3 hd3 hl3))
    | (go_at_call 13; refine (fsize_any 2 _ (by omega)).mono ?_; rintro e w' ⟨rfl, rfl⟩))
  go_ret
  exact ⟨rfl, HBE.out⟩
end Go.Proofs.Ytfpelocemceffaa
