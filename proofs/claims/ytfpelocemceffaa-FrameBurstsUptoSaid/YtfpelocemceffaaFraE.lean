/- Layer 13, the program: Parse. -/
import Derived.Test.YtfpelocemceffaaFraD
namespace Go.Proofs.Ytfpelocemceffaa
set_option linter.unusedVariables false
open Go.RowKit Go.Lib

/-- a frame that was read -/
structure Fr where
  k : Int
  s : Int
  d : List Int
  e : Int
def fr0 : Fr := ⟨0, 0, [], 0⟩
def psE (zs : List Int) (a : Int) : Int := if a < 0 ∨ a > zs.length then 2 else rdE (zs.drop a.toNat)
def psF (zs : List Int) (a : Int) : Fr := if psE zs a = 0 then ⟨leN (zs.drop a.toNat) 0 1, leN (zs.drop a.toNat) 1 8, ((zs.drop a.toNat).drop 17).take (leN (zs.drop a.toNat) 9 4).toNat, a + 21 + leN (zs.drop a.toNat) 9 4⟩ else fr0
theorem size25f : (Try.prog.info? 25).map (·.size) = some 4 := by kernel_rfl
/-- a frame, as a value -/
def frV (k s : Int) (q : Option Addr) (n c : Nat) (e : Int) : Value := .agg #[.int .i64 k, .int .u64 s, .slice q n c, .int .i64 e]

theorem Ob.keepg {w w' : World} {B : Nat} {e : TypeId} {v : Value} {zs : List Int} (h : Ob w B e v zs) (hk : ∀ g, B ≤ g → g < w.heap.size → w'.heap[g]? = w.heap[g]?) : Ob w' B e v zs := by
  obtain ⟨hb, hl, h2⟩ := h
  refine ⟨hb, hl, ?_⟩
  rcases h2 with h2 | ⟨g, cap, cur, hv, hB, hg, r⟩
  · exact Or.inl h2
  · exact Or.inr ⟨g, cap, cur, hv, hB, (hk g hB (Array.getElem?_eq_some_iff.1 hg).1).trans hg, r⟩
theorem four_other (w : World) (g k : Nat) (v0 v1 v2 v3 : Value) (hk : k ≠ g) : ((((w.setCell ⟨g, 0, none⟩ v0).setCell ⟨g, 1, none⟩ v1).setCell ⟨g, 2, none⟩ v2).setCell ⟨g, 3, none⟩ v3).heap[k]? = w.heap[k]? := by
  rw [heap_setCell_other _ ⟨g, 3, none⟩ k v3 hk, heap_setCell_other _ ⟨g, 2, none⟩ k v2 hk, heap_setCell_other _ ⟨g, 1, none⟩ k v1 hk, heap_setCell_other _ ⟨g, 0, none⟩ k v0 hk]

theorem row4k {w : World} {g : Nat} {a0 a1 a2 a3 : Value} {t : TypeId} (h : w.heap[g]? = some (.cells #[a0, a1, a2, a3] t (0, 0))) :
    w.cell? ⟨g, 0, none⟩ = some a0 ∧ w.cell? ⟨g, 1, none⟩ = some a1 ∧ w.cell? ⟨g, 2, none⟩ = some a2 ∧ w.cell? ⟨g, 3, none⟩ = some a3 := by
  obtain ⟨h0, h1, h2, h3, _⟩ := row4 h
  exact ⟨h0, h1, h2, h3⟩

set_option maxRecDepth 100000 in
set_option maxHeartbeats 1000000 in
theorem fparse_any (p : Option Addr) (len cap : Nat) (zs : List Int) (a : Int) (w : World) (h : Bs w p len zs) (hpc : p = none → cap = 0) (hlc : len ≤ cap) (hlen : len ≤ 4194304) (ha : -9223372036854775808 ≤ a ∧ a ≤ 9223372036854775807) :
    Calls Try.prog 6 #[.slice p len cap, .int .i64 a] w fun e w' => ∃ (q : Option Addr) (n c : Nat), e = .returned (.tuple #[frV (psF zs a).k (psF zs a).s q n c (psF zs a).e, .int .i64 (psE zs a)]) ∧ Bs w' q n (psF zs a).d ∧ n ≤ c ∧ c ≤ maxLen ∧ (q = none → c = 0) ∧ Below w.heap.size w w' := by
  have hz := h.len
  have HR : Hid ((w.alloc (.cells #[.int .i64 0, .int .u64 0, .slice none 0 0, .int .i64 0] 25)).heap[w.heap.size]? = some (.cells #[.int .i64 0, .int .u64 0, .slice none 0 0, .int .i64 0] 25 (0, 0))) := Lib.hid (heap_alloc_new _ _)
  obtain ⟨wA, hA⟩ : ∃ W, w.alloc (.cells #[.int .i64 0, .int .u64 0, .slice none 0 0, .int .i64 0] 25) = W := ⟨_, rfl⟩
  have HBA : Hid (Below w.heap.size w wA) := Lib.hid (by rw [← hA]; exact (Below.refl _ _).alloc (Nat.le_refl _) _)
  rw [hA] at HR
  have HPF := Lib.hid (show psF zs a = _ from rfl)
  have HPE := Lib.hid (show psE zs a = _ from rfl)
  unfold psE at HPE
  have hnilb : ∀ W, Bs W none 0 [] := fun W => Bs.empty W none
  obtain ⟨F, hF⟩ : ∃ F, psF zs a = F := ⟨_, rfl⟩
  obtain ⟨E, hE⟩ : ∃ E, psE zs a = E := ⟨_, rfl⟩
  have HFE : Hid (E ≠ 0 → F = fr0) := Lib.hid fun hne => by rw [← hF]; unfold psF; rw [if_neg (by rw [hE]; exact hne)]
  have HFO : Hid (E = 0 → F = ⟨leN (zs.drop a.toNat) 0 1, leN (zs.drop a.toNat) 1 8, ((zs.drop a.toNat).drop 17).take (leN (zs.drop a.toNat) 9 4).toNat, a + 21 + leN (zs.drop a.toNat) 9 4⟩) := Lib.hid fun he => by rw [← hF]; unfold psF; rw [if_pos (by rw [hE]; exact he)]
  have HEE : Hid (E = if a < 0 ∨ a > zs.length then 2 else rdE (zs.drop a.toNat)) := Lib.hid (by rw [← hE]; rfl)
  rw [hF, hE]
  clear HPF HPE hF hE
  by_cases h1 : a < 0 ∨ a > len
  · have e2 : E = 2 := by rw [HEE.out, if_pos (by omega)]
    subst e2
    have e3 := HFE.out (by omega)
    subst e3
    unfold fr0
    dsimp only
    clear h hpc hz HEE HFE HFO
    obtain ⟨z0, z1, z2, z3, f0, f1, f2, f3⟩ := row4 HR.out
    by_cases h2 : a < 0
    · go_enter Try.func6, Try.ntmps6
      go_wp2
      refine bodyPost_ret (res_tmp (c4_stored HR.out _ _ _ _) rfl _ rfl Try.underlying25 size25f) rfl ?_
      exact ⟨none, 0, 0, rfl, Bs.empty _ _, Nat.le_refl _, Nat.zero_le _, fun _ => rfl, below4 HBA.out (Nat.le_refl _) _ _ _ _⟩
    · have h3 : a > len := by omega
      go_enter Try.func6, Try.ntmps6
      go_wp2
      refine bodyPost_ret (res_tmp (c4_stored HR.out _ _ _ _) rfl _ rfl Try.underlying25 size25f) rfl ?_
      exact ⟨none, 0, 0, rfl, Bs.empty _ _, Nat.le_refl _, Nat.zero_le _, fun _ => rfl, below4 HBA.out (Nat.le_refl _) _ _ _ _⟩
  · have h2 : ¬ a < 0 := by omega
    have h3 : ¬ a > len := by omega
    obtain ⟨m, rfl⟩ := Int.eq_ofNat_of_zero_le (show 0 ≤ a by omega)
    rw [Int.toNat_natCast] at HFO HEE
    rw [if_neg (by omega)] at HEE
    obtain ⟨p', hsl, hbs, hpc'⟩ := h.slice_from (P := Try.prog) 22 5 Try.underlying22 (fun _ => by kernel_rfl) cap m hlc (by omega)
    have HRD := Lib.hid (fread_any p' (len - m) (cap - m) (zs.drop m) wA (hbs.later HBA.out) (by omega) (by omega))
    have HBS := Lib.hid (hbs.later HBA.out)
    generalize zs.drop m = r at *
    rw [← HEE.out] at HRD
    by_cases h4 : E = 0
    · subst h4
      have e3 := HFO.out rfl
      subst e3
      dsimp only
      unfold ptV at HRD
      have hb0 := leN_bd r hbs.byte 0 1
      generalize leN r 0 1 = k at *
      generalize leN r 1 8 = s at *
      have hwk : k < 256 := by simpa using hb0.2
      have hk0 : 0 ≤ k := hb0.1
      have hwrap : IntKind.i64.wrap k = k := by simp [IntKind.wrap, IntKind.bits, IntKind.signed]; omega
      clear h hpc hz HEE HFE HFO hbs hpc' hb0 hnilb
      go_enter Try.func6, Try.ntmps6
      go_wp2_with (go_at_call 16; refine HRD.out.mono ?_; rintro e w1 ⟨q, n, c, rfl, hx1, hb1⟩; have HX1 := Lib.hid hx1; have hB1 := below_step HBA.out hb1; obtain ⟨wP, hP⟩ : ∃ W, w1.alloc (.cells #[.int .u64 k, .int .u64 s, .int .u64 n, .slice q n c] 48) = W := ⟨_, rfl⟩; have hQ1 : Below w1.heap.size w1 wP := by { rw [← hP]; exact (Below.refl _ _).alloc (Nat.le_refl _) _ }; have HB1 := Lib.hid (below_step hB1 hQ1); have HR1 := Lib.hid (row_later (row_later HR.out hb1) hQ1); have HP1 : Hid (wP.heap[w1.heap.size]? = some (.cells #[.int .u64 k, .int .u64 s, .int .u64 n, .slice q n c] 48 (0, 0))) := Lib.hid (by rw [← hP]; exact heap_alloc_new w1 _); have HAP := Lib.hid (below_step hb1 hQ1); have HWA := Lib.hid hb1.size; clear hb1 hx1 hB1 hQ1)
      have HBD := Lib.hid HB1.out.drew
      have HGG : Hid (w1.heap.size ≠ w.heap.size) := Lib.hid (by have h2 := (Array.getElem?_eq_some_iff.1 HR.out).1; have h4 := HWA.out; omega)
      have HRD' := Lib.hid (row_later HR1.out (Below.refl _ _).drew)
      have HPD := Lib.hid (row_later HP1.out (Below.refl _ _).drew)
      obtain ⟨hd1, hn1, hc1, hm1, hl1, hq1⟩ := HX1.out trivial
      have HDD := Lib.hid (hd1.later HAP.out.drew)
      have HQ1 := Lib.hid hq1
      have HN1 := Lib.hid hn1
      have hn2 : n ≤ 2097152 := by omega
      have hn5 : n ≤ 4294967296 := by omega
      obtain ⟨k0, k1, k2, k3, kr⟩ := row4 HP1.out
      obtain ⟨l0, l1, l2, l3, lr⟩ := row4 HPD.out
      have kA := And.intro k0 (And.intro k1 (And.intro k2 k3))
      have kB := And.intro l0 (And.intro l1 (And.intro l2 l3))
      clear k0 k1 k2 k3 l0 l1 l2 l3 kr lr hd1 hn1 hc1 hl1 hq1
      obtain ⟨ys, hys⟩ : ∃ ys, List.take n (List.drop 17 r) = ys := ⟨_, rfl⟩
      rw [hys] at HDD
      have HYS := Lib.hid hys
      have HYL := Lib.hid HDD.out.len
      have hmw : IntKind.i64.wrap ((m : Int) + ((n : Int) + 21)) = (m : Int) + ((n : Int) + 21) := by simp [IntKind.wrap, IntKind.bits, IntKind.signed]; omega
      clear hys
      go_region_held3 (fun W => W.cell? ⟨w1.heap.size, 0, none⟩ = some (.int .u64 k) ∧ W.cell? ⟨w1.heap.size, 1, none⟩ = some (.int .u64 s) ∧ W.cell? ⟨w1.heap.size, 2, none⟩ = some (.int .u64 n) ∧ W.cell? ⟨w1.heap.size, 3, none⟩ = some (.slice q n c)) (first | exact kA | exact kB | exact kC | exact kD | exact kE) (first
        | (go_at_call 17; refine (wclone_any q n c ys _ (by first | exact HDL.out | exact HDD.out) HQ1.out hn2).mono ?_; rintro e5 w5 ⟨v5, rfl, ho5, hb5⟩; have HBF : Hid (Below wP.drew.heap.size wP.drew w5) := (by first | exact Lib.hid (below_step HBF.out hb5) | exact Lib.hid hb5); have HRF := Lib.hid (row_later HRD'.out HBF.out); obtain ⟨x0, x1, x2, x3, xr⟩ := row4 (row_later HPD.out HBF.out); have kC := And.intro x0 (And.intro x1 (And.intro x2 x3)); clear x0 x1 x2 x3 xr; obtain ⟨p5, c5, hv5, hlc5, hcm5, hbs5, hpc5⟩ := ho5.open; rw [HYL.out] at hv5 hlc5 hbs5; subst hv5; have HOF := Lib.hid ho5; have HV5 := Lib.hid (And.intro hlc5 (And.intro hcm5 hpc5)); clear ho5 hb5 hbs5 hlc5 hcm5 hpc5)
        | (go_at_call 18; refine (hlength_any k s n _ hn5).mono ?_; rintro e6 w6 ⟨rfl, hb6⟩; (try have HOF := Lib.hid (HOF.out.later hb6)); have HBF : Hid (Below wP.drew.heap.size wP.drew w6) := (by first | exact Lib.hid (below_step HBF.out hb6) | exact Lib.hid hb6); have HDL := Lib.hid (HDD.out.later HBF.out); have HRF := Lib.hid (row_later HRD'.out HBF.out); obtain ⟨z0, z1, z2, z3, f0, f1, f2, f3⟩ := row4 HRF.out; obtain ⟨y0, y1, y2, y3, yr⟩ := row4 (row_later HPD.out HBF.out); have kD := And.intro y0 (And.intro y1 (And.intro y2 y3)); have kE := row4k ((four_other w6 w.heap.size w1.heap.size (.int .i64 k) (.int .u64 s) (.slice p5 n c5) (.int .i64 ((m : Int) + ((n : Int) + 21))) HGG.out).trans (row_later HPD.out HBF.out)); clear hb6 y0 y1 y2 y3 yr kA kB kC))
      go_wp2
      refine bodyPost_ret (res_tmp (c4_stored HRF.out _ _ _ _) rfl _ rfl Try.underlying25 size25f) rfl ?_
      have hV := HV5.out
      have hO := HOF.out.keepg (w' := (((w6.setCell ⟨w.heap.size, 0, none⟩ (.int .i64 k)).setCell ⟨w.heap.size, 1, none⟩ (.int .u64 s)).setCell ⟨w.heap.size, 2, none⟩ (.slice p5 n c5)).setCell ⟨w.heap.size, 3, none⟩ (.int .i64 ((m : Int) + ((n : Int) + 21)))) (fun g hg _ => four_other _ _ _ _ _ _ _ (by have h1 := HBD.out.size; have h2 := HR.out; have h3 := (Array.getElem?_eq_some_iff.1 (row_later h2 (Below.refl _ _))).1; have h4 := HAP.out.drew.size; omega))
      obtain ⟨p6, c6, hv6, _, _, hbs6, _⟩ := hO.open
      rw [HYL.out] at hv6 hbs6
      simp only [Value.slice.injEq] at hv6
      obtain ⟨rfl, _, rfl⟩ := hv6
      refine ⟨p5, n, c5, ?_, ?_, hV.1, hV.2.1, hV.2.2, below4 (below_step HBD.out HBF.out) (Nat.le_refl _) _ _ _ _⟩
      · show Ending.returned (Value.tuple #[frV k s p5 n c5 ((m : Int) + ((n : Int) + 21)), .int .i64 0]) = _
        rw [show (m : Int) + ((n : Int) + 21) = (m : Int) + 21 + leN r 9 4 by rw [← HN1.out]; omega]
      · rw [← HN1.out, Int.toNat_natCast, HYS.out]
        exact hbs6
    · have e3 := HFE.out h4
      subst e3
      unfold fr0
      dsimp only
      have hne : (E != 0) = true := by simpa using h4
      unfold ptV at HRD
      simp only [if_neg h4] at HRD
      clear h hpc hz HEE HFE HFO hbs hpc'
      go_enter Try.func6, Try.ntmps6
      go_wp2_with (go_at_call 16; refine HRD.out.mono ?_; rintro e w1 ⟨q, n, c, rfl, _, hb1⟩; have HB1 := Lib.hid ((below_step HBA.out hb1).alloc (below_step HBA.out hb1).size (.cells #[.int .u64 0, .int .u64 0, .int .u64 0, .slice none 0 0] 48)); have HR1 := Lib.hid (row_later HR.out (hb1.alloc hb1.size (.cells #[.int .u64 0, .int .u64 0, .int .u64 0, .slice none 0 0] 48))); obtain ⟨z0, z1, z2, z3, f0, f1, f2, f3⟩ := row4 HR1.out; clear hb1)
      refine bodyPost_ret (res_tmp (c4_stored HR1.out _ _ _ _) rfl _ rfl Try.underlying25 size25f) rfl ?_
      exact ⟨none, 0, 0, rfl, Bs.empty _ _, Nat.le_refl _, Nat.zero_le _, fun _ => rfl, below4 HB1.out (Nat.le_refl _) _ _ _ _⟩
end Go.Proofs.Ytfpelocemceffaa
