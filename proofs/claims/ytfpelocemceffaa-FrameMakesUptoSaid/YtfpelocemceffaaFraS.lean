/- Layer 13, the reference: Parse. -/
import Derived.Test.YtfpelocemceffaaFraR
import Derived.Test.YtfpelocemceffaaFraE
namespace Go.Proofs.Ytfpelocemceffaa
set_option linter.unusedVariables false
open Go.RowKit Go.Lib

theorem size29f : (Try.prog.info? 29).map (·.size) = some 4 := by kernel_rfl
theorem leN_first (zs : List Int) : leN zs 0 1 = zs.getD 0 0 := by simp [leN]

set_option maxRecDepth 100000 in
set_option maxHeartbeats 2000000 in
theorem rparse_any (p : Option Addr) (len cap : Nat) (zs : List Int) (a : Int) (w : World) (h : Bs w p len zs) (hpc : p = none → cap = 0) (hlc : len ≤ cap) (hcm : cap ≤ maxLen) (hlen : len ≤ 2097152) (ha : -9223372036854775808 ≤ a ∧ a ≤ 9223372036854775807) :
    Calls Try.prog 7 #[.slice p len cap, .int .i64 a] w fun e w' => ∃ (q : Option Addr) (n c : Nat), e = .returned (.tuple #[frV (psF zs a).k (psF zs a).s q n c (psF zs a).e, .int .i64 (psE zs a)]) ∧ Bs w' q n (psF zs a).d ∧ n ≤ c ∧ c ≤ maxLen ∧ (q = none → c = 0) ∧ Below w.heap.size w w' := by
  have hz := h.len
  have HR : Hid ((w.alloc (.cells #[.int .i64 0, .int .u64 0, .slice none 0 0, .int .i64 0] 29)).heap[w.heap.size]? = some (.cells #[.int .i64 0, .int .u64 0, .slice none 0 0, .int .i64 0] 29 (0, 0))) := Lib.hid (heap_alloc_new _ _)
  obtain ⟨wA, hA⟩ : ∃ W, w.alloc (.cells #[.int .i64 0, .int .u64 0, .slice none 0 0, .int .i64 0] 29) = W := ⟨_, rfl⟩
  have HBA : Hid (Below w.heap.size w wA) := Lib.hid (by rw [← hA]; exact (Below.refl _ _).alloc (Nat.le_refl _) _)
  rw [hA] at HR
  obtain ⟨F, hF⟩ : ∃ F, psF zs a = F := ⟨_, rfl⟩
  obtain ⟨E, hE⟩ : ∃ E, psE zs a = E := ⟨_, rfl⟩
  have HFE : Hid (E ≠ 0 → F = fr0) := Lib.hid fun hne => by rw [← hF]; unfold psF; rw [if_neg (by rw [hE]; exact hne)]
  have HFO : Hid (E = 0 → F = ⟨leN (zs.drop a.toNat) 0 1, leN (zs.drop a.toNat) 1 8, ((zs.drop a.toNat).drop 17).take (leN (zs.drop a.toNat) 9 4).toNat, a + 21 + leN (zs.drop a.toNat) 9 4⟩) := Lib.hid fun he => by rw [← hF]; unfold psF; rw [if_pos (by rw [hE]; exact he)]
  have HEE : Hid (E = if a < 0 ∨ a > zs.length then 2 else rdE (zs.drop a.toNat)) := Lib.hid (by rw [← hE]; rfl)
  rw [hF, hE]
  clear hF hE
  have hl' := hlen
  by_cases h1 : a < 0 ∨ a > len
  · have e2 : E = 2 := by rw [HEE.out, if_pos (by omega)]
    subst e2
    have e3 := HFE.out (by omega)
    subst e3
    unfold fr0
    dsimp only
    clear h hpc hz HEE HFE HFO
    obtain ⟨z0, z1, z2, z3, f0, f1, f2, f3⟩ := row4 HR.out
    by_cases h2 : a < 0
    · go_enter Try.func7, Try.ntmps7
      go_wp2
      refine bodyPost_ret (res_tmp (c4_stored HR.out _ _ _ _) rfl _ rfl Try.underlying29 size29f) rfl ?_
      exact ⟨none, 0, 0, rfl, Bs.empty _ _, Nat.le_refl _, Nat.zero_le _, fun _ => rfl, below4 HBA.out (Nat.le_refl _) _ _ _ _⟩
    · have h3 : a > len := by omega
      go_enter Try.func7, Try.ntmps7
      go_wp2
      refine bodyPost_ret (res_tmp (c4_stored HR.out _ _ _ _) rfl _ rfl Try.underlying29 size29f) rfl ?_
      exact ⟨none, 0, 0, rfl, Bs.empty _ _, Nat.le_refl _, Nat.zero_le _, fun _ => rfl, below4 HBA.out (Nat.le_refl _) _ _ _ _⟩
  have h2 : ¬ a < 0 := by omega
  have h3 : ¬ a > len := by omega
  obtain ⟨m, rfl⟩ := Int.eq_ofNat_of_zero_le (show 0 ≤ a by omega)
  rw [Int.toNat_natCast] at HFO HEE
  rw [if_neg (by omega)] at HEE
  obtain ⟨p', hsl, hbs, hpc'⟩ := h.slice_from (P := Try.prog) 22 5 Try.underlying22 (fun _ => by kernel_rfl) cap m hlc (by omega)
  have HRB := Lib.hid hbs.byte
  have hrl := hbs.len
  obtain ⟨r, hr⟩ : ∃ r, zs.drop m = r := ⟨_, rfl⟩
  obtain ⟨N, hN⟩ : ∃ N, len - m = N := ⟨_, rfl⟩
  obtain ⟨C, hC⟩ : ∃ C, cap - m = C := ⟨_, rfl⟩
  rw [hr] at HFO HEE hbs HRB hrl
  rw [hN] at hsl hbs hrl
  rw [hC] at hsl hpc'
  have hNC : N ≤ C := by omega
  have hCm : C ≤ maxLen := by omega
  have hN2 : N ≤ 2097152 := by omega
  have HBS := Lib.hid (hbs.later HBA.out)
  have hpc2 := hpc' hpc
  clear h hpc hz hN hC hr hpc'
  by_cases h4 : N < 17
  · have e4 : E = 4 := by rw [HEE.out]; unfold rdE; rw [if_pos (by omega)]
    subst e4
    have e3 := HFE.out (by omega)
    subst e3
    unfold fr0
    dsimp only
    clear HEE HFE HFO hbs hpc2
    obtain ⟨z0, z1, z2, z3, f0, f1, f2, f3⟩ := row4 HR.out
    have h4' : (N : Int) < 17 := by omega
    go_enter Try.func7, Try.ntmps7
    go_wp2
    refine bodyPost_ret (res_tmp (c4_stored HR.out _ _ _ _) rfl _ rfl Try.underlying29 size29f) rfl ?_
    exact ⟨none, 0, 0, rfl, Bs.empty _ _, Nat.le_refl _, Nat.zero_le _, fun _ => rfl, below4 HBA.out (Nat.le_refl _) _ _ _ _⟩
  have hN17 : ¬ (N : Int) < 17 := by omega
  rcases hbs.2.2 with h0 | ⟨b, o, rfl, _⟩
  · omega
  have hm : N ≤ maxLen := by omega
  have HSQ : Hid (takeN r 1 8 = leN r 1 8) := Lib.hid (takeN_n r 1 8 (by omega) (by omega) (by omega))
  have HSZ : Hid (takeN r 9 4 = leN r 9 4) := Lib.hid (takeN_n r 9 4 (by omega) (by omega) (by omega))
  have HSH : Hid (takeN r 13 4 = leN r 13 4) := Lib.hid (takeN_n r 13 4 (by omega) (by omega) (by omega))
  have hT13 := fun W => run_slice_to (P := Try.prog) W 22 5 Try.underlying22 (fun _ => by kernel_rfl) b o N C 13 (by omega)
  have HB13 := Lib.hid (HBS.out.take 13 (by omega))
  have hbx := leN_bd r HRB.out 13 4
  have hbz := leN_bd r HRB.out 9 4
  have hbk := leN_bd r HRB.out 0 1
  have hbq := leN_bd r HRB.out 1 8
  have hcl := crcN_lt (r.take 13)
  obtain ⟨q, hq⟩ : ∃ q, crcN (r.take 13) = q := ⟨_, rfl⟩
  have HOK : Hid (okN r 13 = decide (leN r 13 4 = (q : Int))) := Lib.hid (by rw [← hq]; rfl)
  have HQ := Lib.hid hq
  rw [hq] at hcl
  have hwq : IntKind.u64.wrap (q : Int) = (q : Int) := wrap_u64_in (by omega) (by omega)
  obtain ⟨hd, hhd⟩ : ∃ x, leN r 13 4 = x := ⟨_, rfl⟩
  rw [hhd] at HOK HSH hbx
  obtain ⟨n, hn⟩ := Int.eq_ofNat_of_zero_le hbz.1
  have HN := Lib.hid hn
  rw [hn] at HSZ
  clear hq hhd
  by_cases h5 : hd = (q : Int)
  · have hok : okN r 13 = true := by rw [HOK.out]; simpa using h5
    have hne : (hd != (q : Int)) = false := by simpa using h5
    have HC0 : Hid (∀ W, Below wA.heap.size wA W → W.cell? ⟨b, o, none⟩ = some (.int .u8 (leN r 0 1))) := Lib.hid fun W hW => by
      rcases (HBS.out.later hW).2.2 with h0 | ⟨b', o', hp, hc⟩
      · omega
      · simp only [Option.some.injEq, Addr.mk.injEq, and_true] at hp
        obtain ⟨rfl, rfl⟩ := hp
        have := hc 0 (by omega)
        rw [leN_first]
        exact this
    have HEK : Hid (E = if leN r 0 1 < 1 ∨ leN r 0 1 > 8 ∨ leN r 9 4 > 65536 then 3 else if r.length < (leN r 9 4).toNat + 21 then 4 else if okN r (17 + (leN r 9 4).toNat) = false then 5 else 0) := Lib.hid (by rw [HEE.out]; unfold rdE; rw [if_neg (by omega), if_neg (by simp [hok])])
    rw [hn, Int.toNat_natCast] at HEK HFO
    generalize hk : leN r 0 1 = k at *
    generalize hs : leN r 1 8 = s at *
    have hk256 : k < 256 := by simpa using hbk.2
    have hs64 : s < 18446744073709551616 := by simpa using hbq.2
    have hkk : IntKind.i64.wrap k = k := by simp [IntKind.wrap, IntKind.bits, IntKind.signed]; omega
    by_cases h6 : k < 1 ∨ k > 8 ∨ (n : Int) > 65536
    · have e4 : E = 3 := by rw [HEK.out, if_pos h6]
      subst e4
      have e3 := HFE.out (by omega)
      subst e3
      unfold fr0
      dsimp only
      clear HEE HFE HFO HEK hbs hpc2 HOK hok h5 hk hs
      go_enter Try.func7, Try.ntmps7
      go_wp2_with (first
        | (go_at_call 19; refine (rtake_any _ N C r _ _ _ HBS.out hm (by omega) (by omega)).mono ?_; rintro e w' ⟨rfl, rfl⟩; first | rw [HSQ.out] | rw [HSZ.out] | rw [HSH.out])
        | (go_at_call 20; refine (rcrc_any _ 13 C (r.take 13) _ HB13.out (by omega)).mono ?_; rintro e w1 ⟨rfl, hb1⟩; rw [HQ.out]; have HR1 := Lib.hid (row_later HR.out hb1); have HB1 := Lib.hid (below_step HBA.out hb1); obtain ⟨z0, z1, z2, z3, f0, f1, f2, f3⟩ := row4 HR1.out; have HBA1 := Lib.hid hb1; have hc0 := HC0.out _ hb1; clear hb1))
      all_goals (refine bodyPost_ret (res_tmp (c4_stored HR1.out _ _ _ _) rfl _ rfl Try.underlying29 size29f) rfl ?_; exact ⟨none, 0, 0, rfl, Bs.empty _ _, Nat.le_refl _, Nat.zero_le _, fun _ => rfl, below4 HB1.out (Nat.le_refl _) _ _ _ _⟩)
    have hk1 : 1 ≤ k := by omega
    have hk8 : k ≤ 8 := by omega
    have hn6 : (n : Int) ≤ 65536 := by omega
    have hke : (k == 0) = false := by simp; omega
    rw [if_neg h6] at HEK
    have hwn : IntKind.i64.wrap (n : Int) = (n : Int) := by simp [IntKind.wrap, IntKind.bits, IntKind.signed]; omega
    by_cases h7 : r.length < n + 21
    · have e4 : E = 4 := by rw [HEK.out, if_pos h7]
      subst e4
      have e3 := HFE.out (by omega)
      subst e3
      unfold fr0
      dsimp only
      have hlt : (N : Int) - 21 < (n : Int) := by omega
      clear HEE HFE HFO HEK hbs hpc2 HOK hok h5 hk hs h6 h7
      go_enter Try.func7, Try.ntmps7
      go_wp2_with (first
        | (go_at_call 19; refine (rtake_any _ N C r _ _ _ HBS.out hm (by omega) (by omega)).mono ?_; rintro e w' ⟨rfl, rfl⟩; first | rw [HSQ.out] | rw [HSZ.out] | rw [HSH.out])
        | (go_at_call 20; refine (rcrc_any _ 13 C (r.take 13) _ HB13.out (by omega)).mono ?_; rintro e w1 ⟨rfl, hb1⟩; rw [HQ.out]; have HR1 := Lib.hid (row_later HR.out hb1); have HB1 := Lib.hid (below_step HBA.out hb1); obtain ⟨z0, z1, z2, z3, f0, f1, f2, f3⟩ := row4 HR1.out; have HBA1 := Lib.hid hb1; have hc0 := HC0.out _ hb1; clear hb1))
      all_goals (refine bodyPost_ret (res_tmp (c4_stored HR1.out _ _ _ _) rfl _ rfl Try.underlying29 size29f) rfl ?_; exact ⟨none, 0, 0, rfl, Bs.empty _ _, Nat.le_refl _, Nat.zero_le _, fun _ => rfl, below4 HB1.out (Nat.le_refl _) _ _ _ _⟩)
    rw [if_neg h7] at HEK
    have hlt : ¬ (N : Int) - 21 < (n : Int) := by omega
    have hsl2 := fun W => run_slice_any (P := Try.prog) W 22 5 Try.underlying22 (fun _ => by kernel_rfl) b o N C 17 (17 + n) (by omega) (by omega)
    have hnc : ¬ C = 17 := by omega
    rw [if_neg hnc, show 17 + n - 17 = n by omega, show (((17 : Nat) : Int)) = 17 from rfl, show (((17 + n : Nat) : Int)) = 17 + (n : Int) by omega] at hsl2
    have hsl3 := fun W => run_slice_to (P := Try.prog) W 22 5 Try.underlying22 (fun _ => by kernel_rfl) b o N C (21 + n) (by omega)
    rw [show (((21 + n : Nat) : Int)) = 21 + (n : Int) by omega] at hsl3
    have HBD := Lib.hid (HBS.out.window 17 n (by omega))
    have HBW := Lib.hid (hbs.window 17 n (by omega))
    have HBF := Lib.hid (HBS.out.take (21 + n) (by omega))
    obtain ⟨ys, hys⟩ : ∃ ys, (r.drop 17).take n = ys := ⟨_, rfl⟩
    have hyl : ys.length = n := by rw [← hys]; simp; omega
    rw [hys] at HBD HFO HBW
    have HYL := Lib.hid hyl
    have HFL : Hid ((frmN k s ys).length = 21 + n) := Lib.hid (by rw [frmN_length, hyl]; omega)
    have HSM : Hid (decide (frmN k s ys = r.take (21 + n)) = okN r (17 + n)) := Lib.hid (by rw [← hys, ← hk, ← hs]; exact frmN_same r HRB.out n (by omega) hn hok)
    obtain ⟨ok, hok2⟩ : ∃ x, okN r (17 + n) = x := ⟨_, rfl⟩
    rw [hok2] at HEK HSM
    have hm21 : 21 + n ≤ maxLen := by omega
    have hw17 : IntKind.i64.wrap (17 + (n : Int)) = 17 + (n : Int) := by simp [IntKind.wrap, IntKind.bits, IntKind.signed]; omega
    have hw21 : IntKind.i64.wrap (21 + (n : Int)) = 21 + (n : Int) := by simp [IntKind.wrap, IntKind.bits, IntKind.signed]; omega
    clear HEE hbs hpc2 HOK hok h5 hk hs h6 h7 hok2 hys hyl hnc hn
    cases ok with
    | false =>
      have e4 : E = 5 := by rw [HEK.out]; rfl
      subst e4
      have e3 := HFE.out (by omega)
      subst e3
      unfold fr0
      dsimp only
      clear HFO HFE HEK
      go_enter Try.func7, Try.ntmps7
      go_wp2_with (first
        | (go_at_call 19; refine (rtake_any _ N C r _ _ _ HBS.out hm (by omega) (by omega)).mono ?_; rintro e w' ⟨rfl, rfl⟩; first | rw [HSQ.out] | rw [HSZ.out] | rw [HSH.out])
        | (go_at_call 20; refine (rcrc_any _ 13 C (r.take 13) _ HB13.out (by omega)).mono ?_; rintro e w1 ⟨rfl, hb1⟩; rw [HQ.out]; have HR1 := Lib.hid (row_later HR.out hb1); have HB1 := Lib.hid (below_step HBA.out hb1); obtain ⟨z0, z1, z2, z3, f0, f1, f2, f3⟩ := row4 HR1.out; have HBA1 := Lib.hid hb1; have hc0 := HC0.out _ hb1; clear hb1))
      have HBAD := Lib.hid HBA1.out.drew
      have HB1D := Lib.hid HB1.out.drew
      have HDY := Lib.hid (HBD.out.later HBAD.out)
      go_region_held3 (fun _ => True) (trivial) (first
        | (go_at_call 12; refine (rmake_any k s _ n _ ys _ HDY.out (fun h => by cases h) (by omega) (by omega)).mono ?_; rintro e w2 ⟨v2, rfl, ho2, hb2⟩; obtain ⟨p2, c2, hv2, hlc2, hcm2, hbs2, hpc2⟩ := ho2.open; rw [HFL.out] at hv2 hlc2 hbs2; subst hv2; have HF2 := Lib.hid hbs2; have HA2 := Lib.hid (below_step HBAD.out hb2); have HB2 := Lib.hid (below_step HB1D.out hb2); have HBF2 := Lib.hid (HBF.out.later HA2.out); clear ho2 hb2 hbs2 hlc2 hcm2 hpc2)
        | (go_at_call 11; refine (same_any _ _ (21 + n) (21 + n) _ _ (frmN k s ys) (r.take (21 + n)) _ hm21 hm21 HF2.out HBF2.out).mono ?_; rintro e w3 ⟨rfl, q3, hq3⟩; rw [HSM.out]; have HB3 : Hid (Below w.heap.size w w3) := Lib.hid (by rw [hq3]; exact below_drewN HB2.out _); have HA3 : Hid (Below wA.heap.size wA w3) := Lib.hid (by rw [hq3]; exact below_drewN HA2.out _); have HR3 := Lib.hid (row_later HR.out HA3.out); obtain ⟨z0, z1, z2, z3, f0, f1, f2, f3⟩ := row4 HR3.out; clear hq3))
      go_wp2
      refine bodyPost_ret (res_tmp (c4_stored HR3.out _ _ _ _) rfl _ rfl Try.underlying29 size29f) rfl ?_
      exact ⟨none, 0, 0, rfl, Bs.empty _ _, Nat.le_refl _, Nat.zero_le _, fun _ => rfl, below4 HB3.out (Nat.le_refl _) _ _ _ _⟩
    | true =>
      have e4 : E = 0 := by rw [HEK.out]; rfl
      subst e4
      have e3 := HFO.out rfl
      subst e3
      dsimp only
      have hms : IntKind.i64.wrap ((m : Int) + 21 + (n : Int)) = (m : Int) + 21 + (n : Int) := by simp [IntKind.wrap, IntKind.bits, IntKind.signed]; omega
      have HQC : Hid (n ≤ C - 17 ∧ C - 17 ≤ maxLen) := Lib.hid (by omega)
      clear HFO HFE HEK
      go_enter Try.func7, Try.ntmps7
      go_wp2_with (first
        | (go_at_call 19; refine (rtake_any _ N C r _ _ _ HBS.out hm (by omega) (by omega)).mono ?_; rintro e w' ⟨rfl, rfl⟩; first | rw [HSQ.out] | rw [HSZ.out] | rw [HSH.out])
        | (go_at_call 20; refine (rcrc_any _ 13 C (r.take 13) _ HB13.out (by omega)).mono ?_; rintro e w1 ⟨rfl, hb1⟩; rw [HQ.out]; have HR1 := Lib.hid (row_later HR.out hb1); have HB1 := Lib.hid (below_step HBA.out hb1); obtain ⟨z0, z1, z2, z3, f0, f1, f2, f3⟩ := row4 HR1.out; have HBA1 := Lib.hid hb1; have hc0 := HC0.out _ hb1; clear hb1))
      have HBAD := Lib.hid HBA1.out.drew
      have HB1D := Lib.hid HB1.out.drew
      have HDY := Lib.hid (HBD.out.later HBAD.out)
      go_region_held3 (fun _ => True) (trivial) (first
        | (go_at_call 12; refine (rmake_any k s _ n _ ys _ HDY.out (fun h => by cases h) (by omega) (by omega)).mono ?_; rintro e w2 ⟨v2, rfl, ho2, hb2⟩; obtain ⟨p2, c2, hv2, hlc2, hcm2, hbs2, hpc2⟩ := ho2.open; rw [HFL.out] at hv2 hlc2 hbs2; subst hv2; have HF2 := Lib.hid hbs2; have HA2 := Lib.hid (below_step HBAD.out hb2); have HB2 := Lib.hid (below_step HB1D.out hb2); have HBF2 := Lib.hid (HBF.out.later HA2.out); clear ho2 hb2 hbs2 hlc2 hcm2 hpc2)
        | (go_at_call 11; refine (same_any _ _ (21 + n) (21 + n) _ _ (frmN k s ys) (r.take (21 + n)) _ hm21 hm21 HF2.out HBF2.out).mono ?_; rintro e w3 ⟨rfl, q3, hq3⟩; rw [HSM.out]; have HB3 : Hid (Below w.heap.size w w3) := Lib.hid (by rw [hq3]; exact below_drewN HB2.out _); have HA3 : Hid (Below wA.heap.size wA w3) := Lib.hid (by rw [hq3]; exact below_drewN HA2.out _); have HR3 := Lib.hid (row_later HR.out HA3.out); obtain ⟨z0, z1, z2, z3, f0, f1, f2, f3⟩ := row4 HR3.out; clear hq3))
      go_wp2
      refine bodyPost_ret (res_tmp (c4_stored HR3.out _ _ _ _) rfl _ rfl Try.underlying29 size29f) rfl ?_
      exact ⟨some ⟨b, o + 17, none⟩, n, C - 17, rfl, HBW.out.later (below4 HB3.out (Nat.le_refl _) _ _ _ _), HQC.out.1, HQC.out.2, (fun h => by cases h), below4 HB3.out (Nat.le_refl _) _ _ _ _⟩
  · have hok : okN r 13 = false := by rw [HOK.out]; simpa using h5
    have e4 : E = 5 := by rw [HEE.out]; unfold rdE; rw [if_neg (by omega), if_pos hok]
    subst e4
    have e3 := HFE.out (by omega)
    subst e3
    unfold fr0
    dsimp only
    have hne : (hd != (q : Int)) = true := by simpa using h5
    clear HEE HFE HFO hbs hpc2 HOK hok h5
    go_enter Try.func7, Try.ntmps7
    go_wp2_with (first
      | (go_at_call 19; refine (rtake_any _ N C r _ _ _ HBS.out hm (by omega) (by omega)).mono ?_; rintro e w' ⟨rfl, rfl⟩; first | rw [HSQ.out] | rw [HSZ.out] | rw [HSH.out])
      | (go_at_call 20; refine (rcrc_any _ 13 C (r.take 13) _ HB13.out (by omega)).mono ?_; rintro e w1 ⟨rfl, hb1⟩; rw [HQ.out]; have HR1 := Lib.hid (row_later HR.out hb1); have HB1 := Lib.hid (below_step HBA.out hb1); obtain ⟨z0, z1, z2, z3, f0, f1, f2, f3⟩ := row4 HR1.out; clear hb1))
    refine bodyPost_ret (res_tmp (c4_stored HR1.out _ _ _ _) rfl _ rfl Try.underlying29 size29f) rfl ?_
    exact ⟨none, 0, 0, rfl, Bs.empty _ _, Nat.le_refl _, Nat.zero_le _, fun _ => rfl, below4 HB1.out (Nat.le_refl _) _ _ _ _⟩
end Go.Proofs.Ytfpelocemceffaa
