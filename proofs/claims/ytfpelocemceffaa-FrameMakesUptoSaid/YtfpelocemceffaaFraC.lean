/- Layer 13, the program: read. -/
import Derived.Test.YtfpelocemceffaaFraB
namespace Go.Proofs.Ytfpelocemceffaa
set_option linter.unusedVariables false
open Go.RowKit Go.Lib

theorem size48 : (Try.prog.info? 48).map (·.size) = some 4 := by kernel_rfl
/-- parts, as a value -/
def ptV (k s z : Int) (p : Option Addr) (n c : Nat) : Value := .agg #[.int .u64 k, .int .u64 s, .int .u64 z, .slice p n c]
def ptC (k s z : Int) (p : Option Addr) (n c : Nat) : Array Value := #[.int .u64 k, .int .u64 s, .int .u64 z, .slice p n c]

theorem rdE_hd (r : List Int) : rdE r = if hdE r ≠ 0 then hdE r else if r.length < (leN r 9 4).toNat + 21 then 4 else if okN r (17 + (leN r 9 4).toNat) = false then 5 else 0 := by
  unfold rdE hdE
  by_cases h1 : r.length < 17
  · simp [h1]
  by_cases h2 : okN r 13 = false
  · simp [h1, h2]
  by_cases h3 : leN r 0 1 < 1 ∨ leN r 0 1 > 8 ∨ leN r 9 4 > 65536
  · simp only [if_neg h1, if_neg h2, if_pos h3]; rfl
  · simp only [if_neg h1, if_neg h2, if_neg h3]; rfl
theorem hdE_ok {r : List Int} (h : hdE r = 0) : 17 ≤ r.length ∧ okN r 13 = true ∧ 1 ≤ leN r 0 1 ∧ leN r 0 1 ≤ 8 ∧ leN r 9 4 ≤ 65536 := by
  unfold hdE at h
  split at h
  · omega
  split at h
  · omega
  split at h
  · omega
  rename_i h1 h2 h3
  refine ⟨by omega, by simpa using h2, by omega, by omega, by omega⟩

set_option maxRecDepth 100000 in
set_option maxHeartbeats 1000000 in
/-- what read answers: of bytes with no frame at their front, no parts -/
theorem fread_any (p : Option Addr) (len cap : Nat) (zs : List Int) (w : World) (h : Bs w p len zs) (hlc : len ≤ cap) (hlen : len ≤ 140737488351232) :
    Calls Try.prog 16 #[.slice p len cap] w fun e w' => ∃ (q : Option Addr) (n c : Nat), e = .returned (.tuple #[if rdE zs = 0 then ptV (leN zs 0 1) (leN zs 1 8) (n : Int) q n c else ptV 0 0 0 none 0 0, .int .i64 (rdE zs)]) ∧
      (rdE zs = 0 → Bs w q n ((zs.drop 17).take n) ∧ (n : Int) = leN zs 9 4 ∧ n ≤ c ∧ n ≤ 65536 ∧ n + 21 ≤ len ∧ (q = none → c = 0)) ∧ Below w.heap.size w w' := by
  have hz := h.len
  have HR : Hid ((w.alloc (.cells (ptC 0 0 0 none 0 0) 48)).heap[w.heap.size]? = some (.cells (ptC 0 0 0 none 0 0) 48 (0, 0))) := Lib.hid (heap_alloc_new _ _)
  unfold ptC at HR
  obtain ⟨wA, hA⟩ : ∃ W, w.alloc (.cells #[.int .u64 0, .int .u64 0, .int .u64 0, .slice none 0 0] 48) = W := ⟨_, rfl⟩
  have HBA : Hid (Below w.heap.size w wA) := Lib.hid (by rw [← hA]; exact (Below.refl _ _).alloc (Nat.le_refl _) _)
  rw [hA] at HR
  have HHD := Lib.hid (freadHead_any p len cap zs wA (h.later HBA.out) hlc hlen)
  have HRD := Lib.hid (rdE_hd zs)
  unfold hdR at HHD
  by_cases h1 : hdE zs = 0
  · obtain ⟨a1, a2, a3, a4, a5⟩ := hdE_ok h1
    have hb9 := leN_bd zs h.byte 9 4
    obtain ⟨n, hn⟩ := Int.eq_ofNat_of_zero_le hb9.1
    rw [h1, if_neg (by omega), hn, Int.toNat_natCast] at HRD
    rw [h1, if_pos rfl, hn] at HHD
    have HNE : Hid (leN zs 9 4 = (n : Int)) := Lib.hid hn
    have HZ3 := h.2.2
    rcases HZ3 with h0 | ⟨b, off, rfl, _⟩
    · omega
    have HA := Lib.hid (h.later HBA.out)
    have H := Lib.hid h
    have HD17 : Hid (n + 21 ≤ len → ∀ W, Bs W (some ⟨b, off, none⟩) len zs → Bs W (some ⟨b, off + 17, none⟩) n ((zs.drop 17).take n)) := Lib.hid fun hl W hW => hW.window 17 n (by omega)
    generalize leN zs 0 1 = k at *
    generalize leN zs 1 8 = s at *
    obtain ⟨wB, hB⟩ : ∃ W, wA = W := ⟨_, rfl⟩
    by_cases h2 : len < n + 21
    · have hr : rdE zs = 4 := by rw [HRD.out, if_pos (by omega)]
      rw [hr]
      have hlt : (len : Int) < (n : Int) + 21 := by omega
      have hn5 : n ≤ 4294967296 := by omega
      clear h hz HRD hr hB h1 hn a1 a2 a3 a4 a5 hb9
      unfold hdV at HHD
      go_enter Try.func16, Try.ntmps16
      go_wp2_with (first
        | (go_at_call 23; refine HHD.out.mono ?_; rintro e w1 ⟨rfl, hb1⟩; have HRB := Lib.hid (row_later HR.out (hb1.alloc hb1.size (.cells #[.int .u64 k, .int .u64 s, .int .u64 n] 46))); have HBB := Lib.hid ((below_step HBA.out hb1).alloc (below_step HBA.out hb1).size (.cells #[.int .u64 k, .int .u64 s, .int .u64 n] 46)); clear hb1)
        | (go_at_call 18; refine (hlength_any k s n _ hn5).mono ?_; rintro e w2 ⟨rfl, hb2⟩; have HR2 := Lib.hid (row_later HRB.out hb2); have HB2 := Lib.hid (below_step HBB.out hb2); obtain ⟨z0, z1, z2, z3, f0, f1, f2, f3⟩ := row4 HR2.out; clear hb2))
      refine bodyPost_ret (res_tmp (c4_stored HR2.out _ _ _ _) rfl _ rfl Try.underlying48 size48) rfl ?_
      exact ⟨rfl, below4 HB2.out (Nat.le_refl _) _ _ _ _⟩
    · have hlt : ¬ (len : Int) < (n : Int) + 21 := by omega
      have hn5 : n ≤ 4294967296 := by omega
      have HT := Lib.hid (h.take (n + 21) (by omega))
      have HO : Hid (okN (zs.take (17 + n + 4)) (17 + n) = okN zs (17 + n)) := Lib.hid (okN_take zs (17 + n) (17 + n + 4) (by omega))
      have HU : Hid (∀ W, Below wA.heap.size wA W → Calls Try.prog 24 #[.slice (some ⟨b, off, none⟩) (n + 21) cap] W fun e w' => e = .returned (.tuple #[if okN zs (17 + n) then .slice (some ⟨b, off, none⟩) (17 + n) cap else .slice none 0 0, .bool (okN zs (17 + n))]) ∧ Below W.heap.size W w') :=
        Lib.hid fun W hW => by
          rw [← HO.out, show n + 21 = 17 + n + 4 by omega]
          exact funsealed_any b off (17 + n) cap (zs.take (17 + n + 4)) W ((HA.out.later hW).take (17 + n + 4) (by omega)) (by omega) (by omega)
      have hsl := fun W => run_slice_to (P := Try.prog) W 22 5 Try.underlying22 (fun _ => by kernel_rfl) b off len cap (n + 21) (by omega)
      rw [show (((n + 21 : Nat) : Int)) = (n : Int) + 21 by omega] at hsl
      cases hok : okN zs (17 + n) with
      | false =>
        rw [hok] at HU
        have hr : rdE zs = 5 := by rw [HRD.out, if_neg (by omega), if_pos hok]
        rw [hr]
        clear h hz HRD hr hB h1 hn a1 a2 a3 a4 a5 hb9 HO HT h2 hok
        unfold hdV at HHD
        go_enter Try.func16, Try.ntmps16
        go_wp2_with (first
          | (go_at_call 23; refine HHD.out.mono ?_; rintro e w1 ⟨rfl, hb1⟩; have HRB := Lib.hid (row_later HR.out (hb1.alloc hb1.size (.cells #[.int .u64 k, .int .u64 s, .int .u64 n] 46))); have HBB := Lib.hid ((hb1).alloc (hb1).size (.cells #[.int .u64 k, .int .u64 s, .int .u64 n] 46)); have HHB := Lib.hid (heap_alloc_new w1 (.cells #[.int .u64 k, .int .u64 s, .int .u64 n] 46)); clear hb1)
          | (go_at_call 18; (fail_if_success (have hh := HB2.out)); refine (hlength_any k s n _ hn5).mono ?_; rintro e w2 ⟨rfl, hb2⟩; have HR2 := Lib.hid (row_later HRB.out hb2); have HH2 := Lib.hid (row_later HHB.out hb2); have HB2 := Lib.hid (below_step HBB.out hb2); obtain ⟨g0, g1, g2, _⟩ := row3 HH2.out; clear hb2)
          | (go_at_call 18; refine (hlength_any k s n _ hn5).mono ?_; rintro e w3 ⟨rfl, hb3⟩; have HR3 := Lib.hid (row_later HR2.out hb3); have HH3 := Lib.hid (row_later HH2.out hb3); have HB3 := Lib.hid (below_step HB2.out hb3); clear hb3)
          | (go_at_call 24; refine (HU.out _ HB3.out).mono ?_; rintro e w4 ⟨rfl, hb4⟩; have HR4 := Lib.hid (row_later HR3.out hb4); have HH4 := Lib.hid (row_later HH3.out hb4); have HB4 := Lib.hid (below_step HB3.out hb4); obtain ⟨z0, z1, z2, z3, f0, f1, f2, f3⟩ := row4 HR4.out; clear hb4))
        refine bodyPost_ret (res_tmp (c4_stored HR4.out _ _ _ _) rfl _ rfl Try.underlying48 size48) rfl ?_
        exact ⟨rfl, below4 (below_step HBA.out HB4.out) (Nat.le_refl _) _ _ _ _⟩
      | true =>
        rw [hok] at HU
        have hr : rdE zs = 0 := by rw [HRD.out, if_neg (by omega), if_neg (by simp [hok])]
        rw [hr]
        have HW3 := Lib.hid (HD17.out (by omega))
        have HL1 : Hid (n ≤ cap - 17) := Lib.hid (by omega)
        have HL2 : Hid (n ≤ 65536) := Lib.hid (by omega)
        have HL3 : Hid (n + 21 ≤ len) := Lib.hid (by omega)
        have hnc : ¬ cap = 17 := by omega
        have hsf := fun W => run_slice_from (P := Try.prog) W 22 5 Try.underlying22 (fun _ => by kernel_rfl) b off (17 + n) cap 17 (by omega)
        rw [if_neg hnc, show 17 + n - 17 = n by omega, show (((17 : Nat) : Int)) = 17 from rfl] at hsf
        clear h hz HRD hr hB h1 hn a1 a2 a3 a4 a5 hb9 HO HT h2 hok hnc
        unfold hdV at HHD
        go_enter Try.func16, Try.ntmps16
        go_wp2_with (first
          | (go_at_call 23; refine HHD.out.mono ?_; rintro e w1 ⟨rfl, hb1⟩; have HRB := Lib.hid (row_later HR.out (hb1.alloc hb1.size (.cells #[.int .u64 k, .int .u64 s, .int .u64 n] 46))); have HBB := Lib.hid ((hb1).alloc (hb1).size (.cells #[.int .u64 k, .int .u64 s, .int .u64 n] 46)); have HHB := Lib.hid (heap_alloc_new w1 (.cells #[.int .u64 k, .int .u64 s, .int .u64 n] 46)); clear hb1)
          | (go_at_call 18; (fail_if_success (have hh := HB2.out)); refine (hlength_any k s n _ hn5).mono ?_; rintro e w2 ⟨rfl, hb2⟩; have HR2 := Lib.hid (row_later HRB.out hb2); have HH2 := Lib.hid (row_later HHB.out hb2); have HB2 := Lib.hid (below_step HBB.out hb2); obtain ⟨g0, g1, g2, _⟩ := row3 HH2.out; clear hb2)
          | (go_at_call 18; refine (hlength_any k s n _ hn5).mono ?_; rintro e w3 ⟨rfl, hb3⟩; have HR3 := Lib.hid (row_later HR2.out hb3); have HH3 := Lib.hid (row_later HH2.out hb3); have HB3 := Lib.hid (below_step HB2.out hb3); clear hb3)
          | (go_at_call 24; refine (HU.out _ HB3.out).mono ?_; rintro e w4 ⟨rfl, hb4⟩; have HR4 := Lib.hid (row_later HR3.out hb4); have HH4 := Lib.hid (row_later HH3.out hb4); have HB4 := Lib.hid (below_step HB3.out hb4); have HR5 := Lib.hid (row_later HR4.out (Below.refl _ _).drew); have HH5 := Lib.hid (row_later HH4.out (Below.refl _ _).drew); have HB5 := Lib.hid (HB4.out.drew); obtain ⟨z0, z1, z2, z3, f0, f1, f2, f3⟩ := row4 HR4.out; obtain ⟨x0, x1, x2, x3, y0, y1, y2, y3⟩ := row4 HR5.out;  obtain ⟨g0, g1, g2, _⟩ := row3 HH4.out; obtain ⟨i0, i1, i2, _⟩ := row3 HH5.out; clear hb4))
        go_region
        go_wp2
        refine bodyPost_ret (res_tmp (c4_stored HR5.out _ _ _ _) rfl _ rfl Try.underlying48 size48) rfl ?_
        exact ⟨some ⟨b, off + 17, none⟩, n, cap - 17, rfl, ⟨HW3.out _ H.out, HNE.out.symm, HL1.out, HL2.out, HL3.out, fun e => by cases e⟩, below4 (below_step HBA.out HB5.out) (Nat.le_refl _) _ _ _ _⟩
  · have hr : rdE zs = hdE zs := by rw [HRD.out, if_pos h1]
    rw [hr]
    rw [if_neg h1] at HHD
    have hne : (hdE zs != 0) = true := by simpa using h1
    generalize hdE zs = x at *
    clear h hz HRD hr
    unfold hdV at HHD
    go_enter Try.func16, Try.ntmps16
    go_wp2_with (go_at_call 23; refine HHD.out.mono ?_; rintro e w1 ⟨rfl, hb1⟩; have HRB := Lib.hid (row_later HR.out (hb1.alloc hb1.size (.cells #[.int .u64 0, .int .u64 0, .int .u64 0] 46))); have HBB := Lib.hid ((below_step HBA.out hb1).alloc (below_step HBA.out hb1).size (.cells #[.int .u64 0, .int .u64 0, .int .u64 0] 46)); obtain ⟨z0, z1, z2, z3, f0, f1, f2, f3⟩ := row4 HRB.out; clear hb1)
    refine bodyPost_ret (res_tmp (c4_stored HRB.out _ _ _ _) rfl _ rfl Try.underlying48 size48) rfl ?_
    exact ⟨rfl, below4 HBB.out (Nat.le_refl _) _ _ _ _⟩
end Go.Proofs.Ytfpelocemceffaa
