/- Layer 13, the program: Make; bytes.Clone; Parse; Layer 13, the program: Parse; Layer 13, the reference: Parse -/
import Derived.Test.YtjdigncieoaglaaSt3
import Derived.Test.YtjdigncieoaglaaSt9
import Derived.Test.YtjdigncieoaglaaSt19
import Derived.Test.YtjdigncieoaglaaSt23
import Derived.Test.YtjdigncieoaglaaSt25
import Derived.Test.YtjdigncieoaglaaSt26
set_option linter.unusedSimpArgs false
set_option linter.unusedVariables false
namespace Go.Proofs.Ytjdigncieoaglaa
set_option linter.unusedVariables false
open Go.RowKit Go.Lib

theorem putN_mod (n m : Int) (s : Nat) (h : ∀ j, j < s → n / 256 ^ j % 256 = m / 256 ^ j % 256) : putN n s = putN m s := by
  induction s with
  | zero => rfl
  | succ s ih => rw [putN, putN, ih (fun j hj => h j (by omega)), h s (by omega)]
theorem putN_one (n : Int) : putN n 1 = [n % 256] := by simp [putN]

set_option maxRecDepth 100000 in
theorem fstart_any (k s z : Int) (w : World) (hk : 0 ≤ k ∧ k < 18446744073709551616) (hs : 0 ≤ s ∧ s < 18446744073709551616) (hz : 0 ≤ z ∧ z < 18446744073709551616) :
    Calls Try.prog 64 #[hdV k s z] w fun e w' => ∃ v, e = .returned v ∧ Ob w' w.heap.size 5 v (frmH k s z) ∧ Below w.heap.size w w' := by
  have HB0 : Hid (Below w.heap.size w (w.alloc (.cells #[.int .u64 k, .int .u64 s, .int .u64 z] 96))) := Lib.hid ((Below.refl _ _).alloc (Nat.le_refl _) _)
  have HX : Hid ((w.alloc (.cells #[.int .u64 k, .int .u64 s, .int .u64 z] 96)).heap[w.heap.size]? = some (.cells #[.int .u64 k, .int .u64 s, .int .u64 z] 96 (0, 0))) := Lib.hid (heap_alloc_new _ _)
  have H1 := Lib.hid (putS_n k 1 (by omega) (by omega))
  have H2 := Lib.hid (putS_n s 8 (by omega) (by omega))
  have H3 := Lib.hid (putS_n z 4 (by omega) (by omega))
  have HF : Hid (frmH k s z = sealN (([] ++ putS k 1) ++ putS s 8 ++ putS z 4)) := Lib.hid (by rw [show putS k 1 = putN k 1 from H1.out, show putS s 8 = putN s 8 from H2.out, show putS z 4 = putN z 4 from H3.out]; rfl)
  have hl1 : (([] : List Int) ++ putS k 1).length = 1 := by rw [show putS k 1 = putN k 1 from H1.out]; simp [putN_length]
  have hl2 : (([] : List Int) ++ putS k 1 ++ putS s 8).length = 9 := by rw [List.length_append, hl1, show putS s 8 = putN s 8 from H2.out, putN_length]
  have hl3 : (([] : List Int) ++ putS k 1 ++ putS s 8 ++ putS z 4).length = 13 := by rw [List.length_append, hl2, show putS z 4 = putN z 4 from H3.out, putN_length]
  rw [HF.out]
  have HL1 := Lib.hid hl1
  have HL2 := Lib.hid hl2
  have HL3 := Lib.hid hl3
  have HN := Lib.hid (Bs.empty w none)
  clear H1 H2 H3 HF hl1 hl2 hl3
  unfold hdV
  go_enter Try.func64, Try.ntmps64
  go_wp2_with (first
    | (go_at_call 51; (fail_if_success (have hh := HB1.out)); refine (put_any none 0 0 [] k 1 _ (Bs.empty _ none) (by omega) hk.1 hk.2).mono ?_; rintro e w1 ⟨v1, rfl, ho1, hb1⟩; obtain ⟨p1, c1, hv1, hlc1, hcm1, hbs1, hpc1⟩ := ho1.open; subst hv1; rw [HL1.out] at hlc1 hbs1 ⊢; have HB1 := Lib.hid (below_step HB0.out hb1); have HX1 := Lib.hid (row_later HX.out hb1); have HD1 := Lib.hid hbs1; obtain ⟨x0, x1, x2, _⟩ := row3 HX1.out; clear ho1 hb1 hbs1)
    | (go_at_call 51; (fail_if_success (have hh := HB2.out)); refine (put_any _ 1 _ _ s 8 _ HD1.out (by omega) hs.1 hs.2).mono ?_; rintro e w2 ⟨v2, rfl, ho2, hb2⟩; obtain ⟨p2, c2, hv2, hlc2, hcm2, hbs2, hpc2⟩ := ho2.open; subst hv2; rw [HL2.out] at hlc2 hbs2 ⊢; have HB2 := Lib.hid (below_step HB1.out hb2); have HX2 := Lib.hid (row_later HX1.out hb2); have HD2 := Lib.hid hbs2; obtain ⟨y0, y1, y2, _⟩ := row3 HX2.out; clear ho2 hb2 hbs2)
    | (go_at_call 51; refine (put_any _ 9 _ _ z 4 _ HD2.out (by omega) hz.1 hz.2).mono ?_; rintro e w3 ⟨v3, rfl, ho3, hb3⟩; obtain ⟨p3, c3, hv3, hlc3, hcm3, hbs3, hpc3⟩ := ho3.open; subst hv3; rw [HL3.out] at hlc3 hbs3 ⊢; have HB3 := Lib.hid (below_step HB2.out hb3); have HD3 := Lib.hid hbs3; clear ho3 hb3 hbs3)
    | (go_at_call 63; refine (fsealed_any _ 13 _ _ _ HD3.out (by omega)).mono ?_; rintro e w4 ⟨v4, rfl, ho4, hb4⟩; have HO4 := Lib.hid (ho4.mono HB3.out.size); have HB4 := Lib.hid (below_step HB3.out hb4); clear ho4 hb4))
  go_ret
  exact ⟨_, rfl, HO4.out, HB4.out⟩

set_option maxRecDepth 100000 in
set_option maxHeartbeats 1000000 in
theorem fwhole_any (k s z : Int) (p : Option Addr) (n c : Nat) (zs : List Int) (w : World) (h : Bs w p n zs) (hpc : p = none → c = 0) (hn : n ≤ 4194304) (hk : 0 ≤ k ∧ k < 18446744073709551616) (hs : 0 ≤ s ∧ s < 18446744073709551616) (hz : 0 ≤ z ∧ z < 18446744073709551616) :
    Calls Try.prog 49 #[ptV k s z p n c] w fun e w' => ∃ v, e = .returned v ∧ Ob w' w.heap.size 5 v (sealN (frmH k s z ++ zs)) ∧ Below w.heap.size w w' := by
  have HB0 : Hid (Below w.heap.size w (w.alloc (.cells #[.int .u64 k, .int .u64 s, .int .u64 z, .slice p n c] 98))) := Lib.hid ((Below.refl _ _).alloc (Nat.le_refl _) _)
  have HX : Hid ((w.alloc (.cells #[.int .u64 k, .int .u64 s, .int .u64 z, .slice p n c] 98)).heap[w.heap.size]? = some (.cells #[.int .u64 k, .int .u64 s, .int .u64 z, .slice p n c] 98 (0, 0))) := Lib.hid (heap_alloc_new _ _)
  have H := Lib.hid h
  have HP := Lib.hid hpc
  have hzl := h.len
  have HL : Hid ((frmH k s z).length + n ≤ 140737488355328) := Lib.hid (by rw [frmH_length]; omega)
  have HL2 : Hid ((frmH k s z ++ zs).length ≤ 140737488351232) := Lib.hid (by rw [List.length_append, frmH_length]; omega)
  have HS := Lib.hid fun W => fstart_any k s z W hk hs hz
  generalize frmH k s z = fh at *
  obtain ⟨L, hLL⟩ : ∃ L, (fh ++ zs).length = L := ⟨_, rfl⟩
  rw [hLL] at HL2
  have HLL := Lib.hid hLL
  clear h hpc hzl hk hs hz hLL
  unfold ptV
  unfold hdV at HS
  obtain ⟨wA, hA⟩ : ∃ W, w.alloc (.cells #[.int .u64 k, .int .u64 s, .int .u64 z, .slice p n c] 98) = W := ⟨_, rfl⟩
  rw [hA] at HB0 HX
  have HB0' := Lib.hid HB0.out.drew
  obtain ⟨a0, a1, a2, a3, _⟩ := row4 HX.out
  have HXD := Lib.hid (row_later HX.out (Below.refl _ _).drew)
  obtain ⟨b0, b1, b2, b3, _⟩ := row4 HXD.out
  go_enter Try.func49, Try.ntmps49
  go_wp2_with fail
  go_region_law (first
    | (go_simp; go_at_call 64; refine (HS.out _).mono ?_; rintro e w1 ⟨v1, rfl, ho1, hb1⟩; have HO1 := Lib.hid ho1; have HB1 := Lib.hid hb1; have HX1 := Lib.hid (row_later HXD.out hb1); obtain ⟨c0, c1, c2, c3, _⟩ := row4 HX1.out; have HZ1 := Lib.hid (H.out.later (below_step HB0'.out HB1.out)); clear ho1 hb1)
    | (refine step_append_bytes rfl (.tmp 5) (.tmp 7) 23 5 rfl Try.underlying23 info8 wA.drew.heap.size _ fh rfl HO1.out p n c zs rfl HZ1.out HP.out HL.out HB1.out.size ?_; intro v2 w2 ho2 hg2; have HB2 := Lib.hid (below_new HB1.out HO1.out hg2 HB1.out.size); obtain ⟨p2, c2, hv2, hlc2, hcm2, hbs2, hpc2⟩ := ho2.open; rw [HLL.out] at hv2 hlc2 hbs2; subst hv2; have HD2 := Lib.hid hbs2; clear ho2 hg2 hbs2)
    | (go_simp; go_at_call 63; refine (fsealed_any _ _ _ _ _ HD2.out HL2.out).mono ?_; rintro e w4 ⟨v4, rfl, ho4, hb4⟩; have HO4 := Lib.hid ((ho4.mono HB2.out.size).mono HB0'.out.size); have HB4 := Lib.hid (below_step HB2.out hb4); have HB5 := Lib.hid (below_step HB0'.out HB4.out); clear ho4 hb4))
  all_goals go_wp2
  all_goals go_ret
  all_goals exact ⟨_, rfl, HO4.out, HB5.out⟩

theorem frmH_wrap (k s z : Int) : frmH (k % 18446744073709551616) s z = frmH k s z := by
  have e : putN (k % 18446744073709551616) 1 = putN k 1 := by rw [putN_one, putN_one]; congr 1; omega
  unfold frmH frmS
  rw [e]

set_option maxRecDepth 100000 in
theorem fmake_any (k s : Int) (p : Option Addr) (n c : Nat) (zs : List Int) (w : World) (h : Bs w p n zs) (hpc : p = none → c = 0) (hn : n ≤ 4194304) (hs : 0 ≤ s ∧ s < 18446744073709551616) :
    Calls Try.prog 35 #[.int .i64 k, .int .u64 s, .slice p n c] w fun e w' => ∃ v, e = .returned v ∧ Ob w' w.heap.size 5 v (frmN k s zs) ∧ Below w.heap.size w w' := by
  have hwk : IntKind.u64.wrap k = k % 18446744073709551616 := by simp [IntKind.wrap, IntKind.bits, IntKind.signed]
  have hwn : IntKind.u64.wrap (n : Int) = (n : Int) := wrap_u64_in (by omega) (by omega)
  have HW := fwhole_any (k % 18446744073709551616) s (n : Int) p n c zs w h hpc hn (by omega) hs (by omega)
  have hzl := h.len
  rw [frmH_wrap, ← hzl] at HW
  have HW := Lib.hid HW
  unfold frmN
  generalize sealN (frmH k s zs.length ++ zs) = R at *
  unfold ptV at HW
  rw [hzl] at HW
  clear h hpc hzl
  go_enter Try.func35, Try.ntmps35
  go_wp2_with (go_at_call 49; refine HW.out.mono ?_; rintro e w1 ⟨v1, rfl, ho1, hb1⟩; have HO1 := Lib.hid ho1; have HB1 := Lib.hid hb1; clear ho1 hb1)
  go_ret
  exact ⟨_, rfl, HO1.out, HB1.out⟩
end Go.Proofs.Ytjdigncieoaglaa

namespace Go.Proofs.Ytjdigncieoaglaa
set_option linter.unusedVariables false
open Go.RowKit Go.Lib

theorem size25f : (Try.prog.info? 102).map (·.size) = some 4 := by kernel_rfl
/-- a frame, as a value -/
def frV (k s : Int) (q : Option Addr) (n c : Nat) (e : Int) : Value := .agg #[.int .i64 k, .int .u64 s, .slice q n c, .int .i64 e]

theorem four_other (w : World) (g k : Nat) (v0 v1 v2 v3 : Value) (hk : k ≠ g) : ((((w.setCell ⟨g, 0, none⟩ v0).setCell ⟨g, 1, none⟩ v1).setCell ⟨g, 2, none⟩ v2).setCell ⟨g, 3, none⟩ v3).heap[k]? = w.heap[k]? := by
  rw [heap_setCell_other _ ⟨g, 3, none⟩ k v3 hk, heap_setCell_other _ ⟨g, 2, none⟩ k v2 hk, heap_setCell_other _ ⟨g, 1, none⟩ k v1 hk, heap_setCell_other _ ⟨g, 0, none⟩ k v0 hk]

theorem row4k {w : World} {g : Nat} {a0 a1 a2 a3 : Value} {t : TypeId} (h : w.heap[g]? = some (.cells #[a0, a1, a2, a3] t (0, 0))) :
    w.cell? ⟨g, 0, none⟩ = some a0 ∧ w.cell? ⟨g, 1, none⟩ = some a1 ∧ w.cell? ⟨g, 2, none⟩ = some a2 ∧ w.cell? ⟨g, 3, none⟩ = some a3 := by
  obtain ⟨h0, h1, h2, h3, _⟩ := row4 h
  exact ⟨h0, h1, h2, h3⟩

set_option maxRecDepth 100000 in
set_option maxHeartbeats 1000000 in
theorem fparse_ob (p : Option Addr) (len cap : Nat) (zs : List Int) (a : Int) (w : World) (h : Bs w p len zs) (hpc : p = none → cap = 0) (hlc : len ≤ cap) (hlen : len ≤ 4194304) (ha : -9223372036854775808 ≤ a ∧ a ≤ 9223372036854775807) :
    Calls Try.prog 52 #[.slice p len cap, .int .i64 a] w fun e w' => ∃ (q : Option Addr) (n c : Nat), e = .returned (.tuple #[frV (psF zs a).k (psF zs a).s q n c (psF zs a).e, .int .i64 (psE zs a)]) ∧ Bs w' q n (psF zs a).d ∧ n ≤ c ∧ c ≤ maxLen ∧ (q = none → c = 0) ∧ Below w.heap.size w w' ∧ Ob w' (w.heap.size + 1) 5 (.slice q n c) (psF zs a).d := by
  have hz := h.len
  have HR : Hid ((w.alloc (.cells #[.int .i64 0, .int .u64 0, .slice none 0 0, .int .i64 0] 102)).heap[w.heap.size]? = some (.cells #[.int .i64 0, .int .u64 0, .slice none 0 0, .int .i64 0] 102 (0, 0))) := Lib.hid (heap_alloc_new _ _)
  obtain ⟨wA, hA⟩ : ∃ W, w.alloc (.cells #[.int .i64 0, .int .u64 0, .slice none 0 0, .int .i64 0] 102) = W := ⟨_, rfl⟩
  have HBA : Hid (Below w.heap.size w wA) := Lib.hid (by rw [← hA]; exact (Below.refl _ _).alloc (Nat.le_refl _) _)
  rw [hA] at HR
  have HPF := Lib.hid (show psF zs a = _ from rfl)
  have HPE := Lib.hid (show psE zs a = _ from rfl)
  unfold psE at HPE
  have hnilb : ∀ W, Bs W none 0 [] := fun W => Bs.empty W none
  obtain ⟨F, hF⟩ : ∃ F, psF zs a = F := ⟨_, rfl⟩
  obtain ⟨E, hE⟩ : ∃ E, psE zs a = E := ⟨_, rfl⟩
  have HFE : Hid (E ≠ 0 → F = fr0) := Lib.hid fun hne => by rw [← hF]; unfold psF; rw [if_neg (by rw [hE]; exact hne)]
  have HFO : Hid (E = 0 → F = ⟨leN (zs.drop a.toNat) 0 1, leN (zs.drop a.toNat) 1 8, ((zs.drop a.toNat).drop 17).take (leN (zs.drop a.toNat) 9 4).toNat, a + 21 + leN (zs.drop a.toNat) 9 4⟩) := Lib.hid fun he => by rw [← hF]; unfold psF; rw [if_pos (by rw [hE]; exact he)]
  have HEE : Hid (E = if a < 0 ∨ a > zs.length then 2 else rdE (zs.drop a.toNat)) := Lib.hid (by rw [← hE]; rfl)
  rw [hF, hE]
  clear HPF HPE hF hE
  by_cases h1 : a < 0 ∨ a > len
  · have e2 : E = 2 := by rw [HEE.out, if_pos (by omega)]
    subst e2
    have e3 := HFE.out (by omega)
    subst e3
    unfold fr0
    dsimp only
    clear h hpc hz HEE HFE HFO
    obtain ⟨z0, z1, z2, z3, f0, f1, f2, f3⟩ := row4 HR.out
    by_cases h2 : a < 0
    · go_enter Try.func52, Try.ntmps52
      go_wp2
      refine bodyPost_ret (res_tmp (c4_stored HR.out _ _ _ _) rfl _ rfl Try.underlying102 size25f) rfl ?_
      exact ⟨none, 0, 0, rfl, Bs.empty _ _, Nat.le_refl _, Nat.zero_le _, fun _ => rfl, below4 HBA.out (Nat.le_refl _) _ _ _ _, Ob.nil _ _ _⟩
    · have h3 : a > len := by omega
      go_enter Try.func52, Try.ntmps52
      go_wp2
      refine bodyPost_ret (res_tmp (c4_stored HR.out _ _ _ _) rfl _ rfl Try.underlying102 size25f) rfl ?_
      exact ⟨none, 0, 0, rfl, Bs.empty _ _, Nat.le_refl _, Nat.zero_le _, fun _ => rfl, below4 HBA.out (Nat.le_refl _) _ _ _ _, Ob.nil _ _ _⟩
  · have h2 : ¬ a < 0 := by omega
    have h3 : ¬ a > len := by omega
    obtain ⟨m, rfl⟩ := Int.eq_ofNat_of_zero_le (show 0 ≤ a by omega)
    rw [Int.toNat_natCast] at HFO HEE
    rw [if_neg (by omega)] at HEE
    obtain ⟨p', hsl, hbs, hpc'⟩ := h.slice_from (P := Try.prog) 23 5 Try.underlying23 (fun _ => by kernel_rfl) cap m hlc (by omega)
    have HRD := Lib.hid (fread_any p' (len - m) (cap - m) (zs.drop m) wA (hbs.later HBA.out) (by omega) (by omega))
    have HBS := Lib.hid (hbs.later HBA.out)
    generalize zs.drop m = r at *
    rw [← HEE.out] at HRD
    by_cases h4 : E = 0
    · subst h4
      have e3 := HFO.out rfl
      subst e3
      dsimp only
      unfold ptV at HRD
      have hb0 := leN_bd r hbs.byte 0 1
      generalize leN r 0 1 = k at *
      generalize leN r 1 8 = s at *
      have hwk : k < 256 := by simpa using hb0.2
      have hk0 : 0 ≤ k := hb0.1
      have hwrap : IntKind.i64.wrap k = k := by simp [IntKind.wrap, IntKind.bits, IntKind.signed]; omega
      clear h hpc hz HEE HFE HFO hbs hpc' hb0 hnilb
      go_enter Try.func52, Try.ntmps52
      go_wp2_with (go_at_call 67; refine HRD.out.mono ?_; rintro e w1 ⟨q, n, c, rfl, hx1, hb1⟩; have HX1 := Lib.hid hx1; have hB1 := below_step HBA.out hb1; obtain ⟨wP, hP⟩ : ∃ W, w1.alloc (.cells #[.int .u64 k, .int .u64 s, .int .u64 n, .slice q n c] 98) = W := ⟨_, rfl⟩; have hQ1 : Below w1.heap.size w1 wP := by { rw [← hP]; exact (Below.refl _ _).alloc (Nat.le_refl _) _ }; have HB1 := Lib.hid (below_step hB1 hQ1); have HR1 := Lib.hid (row_later (row_later HR.out hb1) hQ1); have HP1 : Hid (wP.heap[w1.heap.size]? = some (.cells #[.int .u64 k, .int .u64 s, .int .u64 n, .slice q n c] 98 (0, 0))) := Lib.hid (by rw [← hP]; exact heap_alloc_new w1 _); have HAP := Lib.hid (below_step hb1 hQ1); have HWA := Lib.hid hb1.size; clear hb1 hx1 hB1 hQ1)
      have HBD := Lib.hid HB1.out.drew
      have HGG : Hid (w1.heap.size ≠ w.heap.size) := Lib.hid (by have h2 := (Array.getElem?_eq_some_iff.1 HR.out).1; have h4 := HWA.out; omega)
      have HRD' := Lib.hid (row_later HR1.out (Below.refl _ _).drew)
      have HPD := Lib.hid (row_later HP1.out (Below.refl _ _).drew)
      obtain ⟨hd1, hn1, hc1, hm1, hl1, hq1⟩ := HX1.out trivial
      have HDD := Lib.hid (hd1.later HAP.out.drew)
      have HQ1 := Lib.hid hq1
      have HN1 := Lib.hid hn1
      have hn2 : n ≤ 2097216 := by omega
      have hn5 : n ≤ 4294967296 := by omega
      obtain ⟨k0, k1, k2, k3, kr⟩ := row4 HP1.out
      obtain ⟨l0, l1, l2, l3, lr⟩ := row4 HPD.out
      have kA := And.intro k0 (And.intro k1 (And.intro k2 k3))
      have kB := And.intro l0 (And.intro l1 (And.intro l2 l3))
      clear k0 k1 k2 k3 l0 l1 l2 l3 kr lr hd1 hn1 hc1 hl1 hq1
      obtain ⟨ys, hys⟩ : ∃ ys, List.take n (List.drop 17 r) = ys := ⟨_, rfl⟩
      rw [hys] at HDD
      have HYS := Lib.hid hys
      have HYL := Lib.hid HDD.out.len
      have hmw : IntKind.i64.wrap ((m : Int) + ((n : Int) + 21)) = (m : Int) + ((n : Int) + 21) := by simp [IntKind.wrap, IntKind.bits, IntKind.signed]; omega
      clear hys
      have HSP : Hid (w.heap.size + 1 ≤ wP.drew.heap.size) := Lib.hid (Array.getElem?_eq_some_iff.1 HR1.out).1
      go_region_held3 (fun W => W.cell? ⟨w1.heap.size, 0, none⟩ = some (.int .u64 k) ∧ W.cell? ⟨w1.heap.size, 1, none⟩ = some (.int .u64 s) ∧ W.cell? ⟨w1.heap.size, 2, none⟩ = some (.int .u64 n) ∧ W.cell? ⟨w1.heap.size, 3, none⟩ = some (.slice q n c)) (first | exact kA | exact kB | exact kC | exact kD | exact kE) (first
        | (go_at_call 68; refine (wclone_any q n c ys _ (by first | exact HDL.out | exact HDD.out) HQ1.out hn2).mono ?_; rintro e5 w5 ⟨v5, rfl, ho5, hb5⟩; obtain ⟨B5, hB5, ho5⟩ : ∃ B, w.heap.size + 1 ≤ B ∧ Ob w5 B 5 v5 ys := ⟨_, (by first | exact Nat.le_trans HSP.out HBF.out.size | exact HSP.out), ho5⟩; have HB5 := Lib.hid hB5; clear hB5; have HBF : Hid (Below wP.drew.heap.size wP.drew w5) := (by first | exact Lib.hid (below_step HBF.out hb5) | exact Lib.hid hb5); have HRF := Lib.hid (row_later HRD'.out HBF.out); obtain ⟨x0, x1, x2, x3, xr⟩ := row4 (row_later HPD.out HBF.out); have kC := And.intro x0 (And.intro x1 (And.intro x2 x3)); clear x0 x1 x2 x3 xr; obtain ⟨p5, c5, hv5, hlc5, hcm5, hbs5, hpc5⟩ := ho5.open; rw [HYL.out] at hv5 hlc5 hbs5; subst hv5; have HOF := Lib.hid ho5; have HV5 := Lib.hid (And.intro hlc5 (And.intro hcm5 hpc5)); clear ho5 hb5 hbs5 hlc5 hcm5 hpc5)
        | (go_at_call 69; refine (hlength_any k s n _ hn5).mono ?_; rintro e6 w6 ⟨rfl, hb6⟩; (try have HOF := Lib.hid (HOF.out.later hb6)); have HBF : Hid (Below wP.drew.heap.size wP.drew w6) := (by first | exact Lib.hid (below_step HBF.out hb6) | exact Lib.hid hb6); have HDL := Lib.hid (HDD.out.later HBF.out); have HRF := Lib.hid (row_later HRD'.out HBF.out); obtain ⟨z0, z1, z2, z3, f0, f1, f2, f3⟩ := row4 HRF.out; obtain ⟨y0, y1, y2, y3, yr⟩ := row4 (row_later HPD.out HBF.out); have kD := And.intro y0 (And.intro y1 (And.intro y2 y3)); have kE := row4k ((four_other w6 w.heap.size w1.heap.size (.int .i64 k) (.int .u64 s) (.slice p5 n c5) (.int .i64 ((m : Int) + ((n : Int) + 21))) HGG.out).trans (row_later HPD.out HBF.out)); clear hb6 y0 y1 y2 y3 yr kA kB kC))
      go_wp2
      refine bodyPost_ret (res_tmp (c4_stored HRF.out _ _ _ _) rfl _ rfl Try.underlying102 size25f) rfl ?_
      have hV := HV5.out
      have hO := HOF.out.keepg (w' := (((w6.setCell ⟨w.heap.size, 0, none⟩ (.int .i64 k)).setCell ⟨w.heap.size, 1, none⟩ (.int .u64 s)).setCell ⟨w.heap.size, 2, none⟩ (.slice p5 n c5)).setCell ⟨w.heap.size, 3, none⟩ (.int .i64 ((m : Int) + ((n : Int) + 21)))) (fun g hg _ => four_other _ _ _ _ _ _ _ (by have := HB5.out; omega))
      obtain ⟨p6, c6, hv6, _, _, hbs6, _⟩ := hO.open
      rw [HYL.out] at hv6 hbs6
      simp only [Value.slice.injEq] at hv6
      obtain ⟨rfl, _, rfl⟩ := hv6
      refine ⟨p5, n, c5, ?_, ?_, hV.1, hV.2.1, hV.2.2, below4 (below_step HBD.out HBF.out) (Nat.le_refl _) _ _ _ _, ?_⟩
      · show Ending.returned (Value.tuple #[frV k s p5 n c5 ((m : Int) + ((n : Int) + 21)), .int .i64 0]) = _
        rw [show (m : Int) + ((n : Int) + 21) = (m : Int) + 21 + leN r 9 4 by rw [← HN1.out]; omega]
      · rw [← HN1.out, Int.toNat_natCast, HYS.out]
        exact hbs6
      · rw [← HN1.out, Int.toNat_natCast, HYS.out]
        exact hO.mono HB5.out
    · have e3 := HFE.out h4
      subst e3
      unfold fr0
      dsimp only
      have hne : (E != 0) = true := by simpa using h4
      unfold ptV at HRD
      simp only [if_neg h4] at HRD
      clear h hpc hz HEE HFE HFO hbs hpc'
      go_enter Try.func52, Try.ntmps52
      go_wp2_with (go_at_call 67; refine HRD.out.mono ?_; rintro e w1 ⟨q, n, c, rfl, _, hb1⟩; have HB1 := Lib.hid ((below_step HBA.out hb1).alloc (below_step HBA.out hb1).size (.cells #[.int .u64 0, .int .u64 0, .int .u64 0, .slice none 0 0] 98)); have HR1 := Lib.hid (row_later HR.out (hb1.alloc hb1.size (.cells #[.int .u64 0, .int .u64 0, .int .u64 0, .slice none 0 0] 98))); obtain ⟨z0, z1, z2, z3, f0, f1, f2, f3⟩ := row4 HR1.out; clear hb1)
      refine bodyPost_ret (res_tmp (c4_stored HR1.out _ _ _ _) rfl _ rfl Try.underlying102 size25f) rfl ?_
      exact ⟨none, 0, 0, rfl, Bs.empty _ _, Nat.le_refl _, Nat.zero_le _, fun _ => rfl, below4 HB1.out (Nat.le_refl _) _ _ _ _, Ob.nil _ _ _⟩
theorem fparse_any (p : Option Addr) (len cap : Nat) (zs : List Int) (a : Int) (w : World) (h : Bs w p len zs) (hpc : p = none → cap = 0) (hlc : len ≤ cap) (hlen : len ≤ 4194304) (ha : -9223372036854775808 ≤ a ∧ a ≤ 9223372036854775807) :
    Calls Try.prog 52 #[.slice p len cap, .int .i64 a] w fun e w' => ∃ (q : Option Addr) (n c : Nat), e = .returned (.tuple #[frV (psF zs a).k (psF zs a).s q n c (psF zs a).e, .int .i64 (psE zs a)]) ∧ Bs w' q n (psF zs a).d ∧ n ≤ c ∧ c ≤ maxLen ∧ (q = none → c = 0) ∧ Below w.heap.size w w' :=
  (fparse_ob p len cap zs a w h hpc hlc hlen ha).mono fun e w' ⟨q, n, c, h1, h2, h3, h4, h5, h6, _⟩ => ⟨q, n, c, h1, h2, h3, h4, h5, h6⟩
end Go.Proofs.Ytjdigncieoaglaa

namespace Go.Proofs.Ytjdigncieoaglaa
set_option linter.unusedVariables false
open Go.RowKit Go.Lib

theorem size29f : (Try.prog.info? 69).map (·.size) = some 4 := by kernel_rfl
theorem leN_first (zs : List Int) : leN zs 0 1 = zs.getD 0 0 := by simp [leN]

set_option maxRecDepth 100000 in
set_option maxHeartbeats 2000000 in
theorem rparse_any (p : Option Addr) (len cap : Nat) (zs : List Int) (a : Int) (w : World) (h : Bs w p len zs) (hpc : p = none → cap = 0) (hlc : len ≤ cap) (hcm : cap ≤ maxLen) (hlen : len ≤ 2097216) (ha : -9223372036854775808 ≤ a ∧ a ≤ 9223372036854775807) :
    Calls Try.prog 28 #[.slice p len cap, .int .i64 a] w fun e w' => ∃ (q : Option Addr) (n c : Nat), e = .returned (.tuple #[frV (psF zs a).k (psF zs a).s q n c (psF zs a).e, .int .i64 (psE zs a)]) ∧ Bs w' q n (psF zs a).d ∧ n ≤ c ∧ c ≤ maxLen ∧ (q = none → c = 0) ∧ Below w.heap.size w w' := by
  have hz := h.len
  have HR : Hid ((w.alloc (.cells #[.int .i64 0, .int .u64 0, .slice none 0 0, .int .i64 0] 69)).heap[w.heap.size]? = some (.cells #[.int .i64 0, .int .u64 0, .slice none 0 0, .int .i64 0] 69 (0, 0))) := Lib.hid (heap_alloc_new _ _)
  obtain ⟨wA, hA⟩ : ∃ W, w.alloc (.cells #[.int .i64 0, .int .u64 0, .slice none 0 0, .int .i64 0] 69) = W := ⟨_, rfl⟩
  have HBA : Hid (Below w.heap.size w wA) := Lib.hid (by rw [← hA]; exact (Below.refl _ _).alloc (Nat.le_refl _) _)
  rw [hA] at HR
  obtain ⟨F, hF⟩ : ∃ F, psF zs a = F := ⟨_, rfl⟩
  obtain ⟨E, hE⟩ : ∃ E, psE zs a = E := ⟨_, rfl⟩
  have HFE : Hid (E ≠ 0 → F = fr0) := Lib.hid fun hne => by rw [← hF]; unfold psF; rw [if_neg (by rw [hE]; exact hne)]
  have HFO : Hid (E = 0 → F = ⟨leN (zs.drop a.toNat) 0 1, leN (zs.drop a.toNat) 1 8, ((zs.drop a.toNat).drop 17).take (leN (zs.drop a.toNat) 9 4).toNat, a + 21 + leN (zs.drop a.toNat) 9 4⟩) := Lib.hid fun he => by rw [← hF]; unfold psF; rw [if_pos (by rw [hE]; exact he)]
  have HEE : Hid (E = if a < 0 ∨ a > zs.length then 2 else rdE (zs.drop a.toNat)) := Lib.hid (by rw [← hE]; rfl)
  rw [hF, hE]
  clear hF hE
  have hl' := hlen
  by_cases h1 : a < 0 ∨ a > len
  · have e2 : E = 2 := by rw [HEE.out, if_pos (by omega)]
    subst e2
    have e3 := HFE.out (by omega)
    subst e3
    unfold fr0
    dsimp only
    clear h hpc hz HEE HFE HFO
    obtain ⟨z0, z1, z2, z3, f0, f1, f2, f3⟩ := row4 HR.out
    by_cases h2 : a < 0
    · go_enter Try.func28, Try.ntmps28
      go_wp2
      refine bodyPost_ret (res_tmp (c4_stored HR.out _ _ _ _) rfl _ rfl Try.underlying69 size29f) rfl ?_
      exact ⟨none, 0, 0, rfl, Bs.empty _ _, Nat.le_refl _, Nat.zero_le _, fun _ => rfl, below4 HBA.out (Nat.le_refl _) _ _ _ _⟩
    · have h3 : a > len := by omega
      go_enter Try.func28, Try.ntmps28
      go_wp2
      refine bodyPost_ret (res_tmp (c4_stored HR.out _ _ _ _) rfl _ rfl Try.underlying69 size29f) rfl ?_
      exact ⟨none, 0, 0, rfl, Bs.empty _ _, Nat.le_refl _, Nat.zero_le _, fun _ => rfl, below4 HBA.out (Nat.le_refl _) _ _ _ _⟩
  have h2 : ¬ a < 0 := by omega
  have h3 : ¬ a > len := by omega
  obtain ⟨m, rfl⟩ := Int.eq_ofNat_of_zero_le (show 0 ≤ a by omega)
  rw [Int.toNat_natCast] at HFO HEE
  rw [if_neg (by omega)] at HEE
  obtain ⟨p', hsl, hbs, hpc'⟩ := h.slice_from (P := Try.prog) 23 5 Try.underlying23 (fun _ => by kernel_rfl) cap m hlc (by omega)
  have HRB := Lib.hid hbs.byte
  have hrl := hbs.len
  obtain ⟨r, hr⟩ : ∃ r, zs.drop m = r := ⟨_, rfl⟩
  obtain ⟨N, hN⟩ : ∃ N, len - m = N := ⟨_, rfl⟩
  obtain ⟨C, hC⟩ : ∃ C, cap - m = C := ⟨_, rfl⟩
  rw [hr] at HFO HEE hbs HRB hrl
  rw [hN] at hsl hbs hrl
  rw [hC] at hsl hpc'
  have hNC : N ≤ C := by omega
  have hCm : C ≤ maxLen := by omega
  have hN2 : N ≤ 2097216 := by omega
  have HBS := Lib.hid (hbs.later HBA.out)
  have hpc2 := hpc' hpc
  clear h hpc hz hN hC hr hpc'
  by_cases h4 : N < 17
  · have e4 : E = 4 := by rw [HEE.out]; unfold rdE; rw [if_pos (by omega)]
    subst e4
    have e3 := HFE.out (by omega)
    subst e3
    unfold fr0
    dsimp only
    clear HEE HFE HFO hbs hpc2
    obtain ⟨z0, z1, z2, z3, f0, f1, f2, f3⟩ := row4 HR.out
    have h4' : (N : Int) < 17 := by omega
    go_enter Try.func28, Try.ntmps28
    go_wp2
    refine bodyPost_ret (res_tmp (c4_stored HR.out _ _ _ _) rfl _ rfl Try.underlying69 size29f) rfl ?_
    exact ⟨none, 0, 0, rfl, Bs.empty _ _, Nat.le_refl _, Nat.zero_le _, fun _ => rfl, below4 HBA.out (Nat.le_refl _) _ _ _ _⟩
  have hN17 : ¬ (N : Int) < 17 := by omega
  rcases hbs.2.2 with h0 | ⟨b, o, rfl, _⟩
  · omega
  have hm : N ≤ maxLen := by omega
  have HSQ : Hid (takeN r 1 8 = leN r 1 8) := Lib.hid (takeN_n r 1 8 (by omega) (by omega) (by omega))
  have HSZ : Hid (takeN r 9 4 = leN r 9 4) := Lib.hid (takeN_n r 9 4 (by omega) (by omega) (by omega))
  have HSH : Hid (takeN r 13 4 = leN r 13 4) := Lib.hid (takeN_n r 13 4 (by omega) (by omega) (by omega))
  have hT13 := fun W => run_slice_to (P := Try.prog) W 23 5 Try.underlying23 (fun _ => by kernel_rfl) b o N C 13 (by omega)
  have HB13 := Lib.hid (HBS.out.take 13 (by omega))
  have hbx := leN_bd r HRB.out 13 4
  have hbz := leN_bd r HRB.out 9 4
  have hbk := leN_bd r HRB.out 0 1
  have hbq := leN_bd r HRB.out 1 8
  have hcl := crcN_lt (r.take 13)
  obtain ⟨q, hq⟩ : ∃ q, crcN (r.take 13) = q := ⟨_, rfl⟩
  have HOK : Hid (okN r 13 = decide (leN r 13 4 = (q : Int))) := Lib.hid (by rw [← hq]; rfl)
  have HQ := Lib.hid hq
  rw [hq] at hcl
  have hwq : IntKind.u64.wrap (q : Int) = (q : Int) := wrap_u64_in (by omega) (by omega)
  obtain ⟨hd, hhd⟩ : ∃ x, leN r 13 4 = x := ⟨_, rfl⟩
  rw [hhd] at HOK HSH hbx
  obtain ⟨n, hn⟩ := Int.eq_ofNat_of_zero_le hbz.1
  have HN := Lib.hid hn
  rw [hn] at HSZ
  clear hq hhd
  by_cases h5 : hd = (q : Int)
  · have hok : okN r 13 = true := by rw [HOK.out]; simpa using h5
    have hne : (hd != (q : Int)) = false := by simpa using h5
    have HC0 : Hid (∀ W, Below wA.heap.size wA W → W.cell? ⟨b, o, none⟩ = some (.int .u8 (leN r 0 1))) := Lib.hid fun W hW => by
      rcases (HBS.out.later hW).2.2 with h0 | ⟨b', o', hp, hc⟩
      · omega
      · simp only [Option.some.injEq, Addr.mk.injEq, and_true] at hp
        obtain ⟨rfl, rfl⟩ := hp
        have := hc 0 (by omega)
        rw [leN_first]
        exact this
    have HEK : Hid (E = if leN r 0 1 < 1 ∨ leN r 0 1 > 8 ∨ leN r 9 4 > 65536 then 3 else if r.length < (leN r 9 4).toNat + 21 then 4 else if okN r (17 + (leN r 9 4).toNat) = false then 5 else 0) := Lib.hid (by rw [HEE.out]; unfold rdE; rw [if_neg (by omega), if_neg (by simp [hok])])
    rw [hn, Int.toNat_natCast] at HEK HFO
    generalize hk : leN r 0 1 = k at *
    generalize hs : leN r 1 8 = s at *
    have hk256 : k < 256 := by simpa using hbk.2
    have hs64 : s < 18446744073709551616 := by simpa using hbq.2
    have hkk : IntKind.i64.wrap k = k := by simp [IntKind.wrap, IntKind.bits, IntKind.signed]; omega
    by_cases h6 : k < 1 ∨ k > 8 ∨ (n : Int) > 65536
    · have e4 : E = 3 := by rw [HEK.out, if_pos h6]
      subst e4
      have e3 := HFE.out (by omega)
      subst e3
      unfold fr0
      dsimp only
      clear HEE HFE HFO HEK hbs hpc2 HOK hok h5 hk hs
      go_enter Try.func28, Try.ntmps28
      go_wp2_with (first
        | (go_at_call 42; refine (rtake_any _ N C r _ _ _ HBS.out hm (by omega) (by omega)).mono ?_; rintro e w' ⟨rfl, rfl⟩; first | rw [HSQ.out] | rw [HSZ.out] | rw [HSH.out])
        | (go_at_call 32; refine (rcrc_any _ 13 C (r.take 13) _ HB13.out (by omega)).mono ?_; rintro e w1 ⟨rfl, hb1⟩; rw [HQ.out]; have HR1 := Lib.hid (row_later HR.out hb1); have HB1 := Lib.hid (below_step HBA.out hb1); obtain ⟨z0, z1, z2, z3, f0, f1, f2, f3⟩ := row4 HR1.out; have HBA1 := Lib.hid hb1; have hc0 := HC0.out _ hb1; clear hb1))
      all_goals (refine bodyPost_ret (res_tmp (c4_stored HR1.out _ _ _ _) rfl _ rfl Try.underlying69 size29f) rfl ?_; exact ⟨none, 0, 0, rfl, Bs.empty _ _, Nat.le_refl _, Nat.zero_le _, fun _ => rfl, below4 HB1.out (Nat.le_refl _) _ _ _ _⟩)
    have hk1 : 1 ≤ k := by omega
    have hk8 : k ≤ 8 := by omega
    have hn6 : (n : Int) ≤ 65536 := by omega
    have hke : (k == 0) = false := by simp; omega
    rw [if_neg h6] at HEK
    have hwn : IntKind.i64.wrap (n : Int) = (n : Int) := by simp [IntKind.wrap, IntKind.bits, IntKind.signed]; omega
    by_cases h7 : r.length < n + 21
    · have e4 : E = 4 := by rw [HEK.out, if_pos h7]
      subst e4
      have e3 := HFE.out (by omega)
      subst e3
      unfold fr0
      dsimp only
      have hlt : (N : Int) - 21 < (n : Int) := by omega
      clear HEE HFE HFO HEK hbs hpc2 HOK hok h5 hk hs h6 h7
      go_enter Try.func28, Try.ntmps28
      go_wp2_with (first
        | (go_at_call 42; refine (rtake_any _ N C r _ _ _ HBS.out hm (by omega) (by omega)).mono ?_; rintro e w' ⟨rfl, rfl⟩; first | rw [HSQ.out] | rw [HSZ.out] | rw [HSH.out])
        | (go_at_call 32; refine (rcrc_any _ 13 C (r.take 13) _ HB13.out (by omega)).mono ?_; rintro e w1 ⟨rfl, hb1⟩; rw [HQ.out]; have HR1 := Lib.hid (row_later HR.out hb1); have HB1 := Lib.hid (below_step HBA.out hb1); obtain ⟨z0, z1, z2, z3, f0, f1, f2, f3⟩ := row4 HR1.out; have HBA1 := Lib.hid hb1; have hc0 := HC0.out _ hb1; clear hb1))
      all_goals (refine bodyPost_ret (res_tmp (c4_stored HR1.out _ _ _ _) rfl _ rfl Try.underlying69 size29f) rfl ?_; exact ⟨none, 0, 0, rfl, Bs.empty _ _, Nat.le_refl _, Nat.zero_le _, fun _ => rfl, below4 HB1.out (Nat.le_refl _) _ _ _ _⟩)
    rw [if_neg h7] at HEK
    have hlt : ¬ (N : Int) - 21 < (n : Int) := by omega
    have hsl2 := fun W => run_slice_any (P := Try.prog) W 23 5 Try.underlying23 (fun _ => by kernel_rfl) b o N C 17 (17 + n) (by omega) (by omega)
    have hnc : ¬ C = 17 := by omega
    rw [if_neg hnc, show 17 + n - 17 = n by omega, show (((17 : Nat) : Int)) = 17 from rfl, show (((17 + n : Nat) : Int)) = 17 + (n : Int) by omega] at hsl2
    have hsl3 := fun W => run_slice_to (P := Try.prog) W 23 5 Try.underlying23 (fun _ => by kernel_rfl) b o N C (21 + n) (by omega)
    rw [show (((21 + n : Nat) : Int)) = 21 + (n : Int) by omega] at hsl3
    have HBD := Lib.hid (HBS.out.window 17 n (by omega))
    have HBW := Lib.hid (hbs.window 17 n (by omega))
    have HBF := Lib.hid (HBS.out.take (21 + n) (by omega))
    obtain ⟨ys, hys⟩ : ∃ ys, (r.drop 17).take n = ys := ⟨_, rfl⟩
    have hyl : ys.length = n := by rw [← hys]; simp; omega
    rw [hys] at HBD HFO HBW
    have HYL := Lib.hid hyl
    have HFL : Hid ((frmN k s ys).length = 21 + n) := Lib.hid (by rw [frmN_length, hyl]; omega)
    have HSM : Hid (decide (frmN k s ys = r.take (21 + n)) = okN r (17 + n)) := Lib.hid (by rw [← hys, ← hk, ← hs]; exact frmN_same r HRB.out n (by omega) hn hok)
    obtain ⟨ok, hok2⟩ : ∃ x, okN r (17 + n) = x := ⟨_, rfl⟩
    rw [hok2] at HEK HSM
    have hm21 : 21 + n ≤ maxLen := by omega
    have hw17 : IntKind.i64.wrap (17 + (n : Int)) = 17 + (n : Int) := by simp [IntKind.wrap, IntKind.bits, IntKind.signed]; omega
    have hw21 : IntKind.i64.wrap (21 + (n : Int)) = 21 + (n : Int) := by simp [IntKind.wrap, IntKind.bits, IntKind.signed]; omega
    clear HEE hbs hpc2 HOK hok h5 hk hs h6 h7 hok2 hys hyl hnc hn
    cases ok with
    | false =>
      have e4 : E = 5 := by rw [HEK.out]; rfl
      subst e4
      have e3 := HFE.out (by omega)
      subst e3
      unfold fr0
      dsimp only
      clear HFO HFE HEK
      go_enter Try.func28, Try.ntmps28
      go_wp2_with (first
        | (go_at_call 42; refine (rtake_any _ N C r _ _ _ HBS.out hm (by omega) (by omega)).mono ?_; rintro e w' ⟨rfl, rfl⟩; first | rw [HSQ.out] | rw [HSZ.out] | rw [HSH.out])
        | (go_at_call 32; refine (rcrc_any _ 13 C (r.take 13) _ HB13.out (by omega)).mono ?_; rintro e w1 ⟨rfl, hb1⟩; rw [HQ.out]; have HR1 := Lib.hid (row_later HR.out hb1); have HB1 := Lib.hid (below_step HBA.out hb1); obtain ⟨z0, z1, z2, z3, f0, f1, f2, f3⟩ := row4 HR1.out; have HBA1 := Lib.hid hb1; have hc0 := HC0.out _ hb1; clear hb1))
      have HBAD := Lib.hid HBA1.out.drew
      have HB1D := Lib.hid HB1.out.drew
      have HDY := Lib.hid (HBD.out.later HBAD.out)
      go_region_held3 (fun _ => True) (trivial) (first
        | (go_at_call 21; refine (rmake_any k s _ n _ ys _ HDY.out (fun h => by cases h) (by omega) (by omega)).mono ?_; rintro e w2 ⟨v2, rfl, ho2, hb2⟩; obtain ⟨p2, c2, hv2, hlc2, hcm2, hbs2, hpc2⟩ := ho2.open; rw [HFL.out] at hv2 hlc2 hbs2; subst hv2; have HF2 := Lib.hid hbs2; have HA2 := Lib.hid (below_step HBAD.out hb2); have HB2 := Lib.hid (below_step HB1D.out hb2); have HBF2 := Lib.hid (HBF.out.later HA2.out); clear ho2 hb2 hbs2 hlc2 hcm2 hpc2)
        | (go_at_call 8; refine (same_any _ _ (21 + n) (21 + n) _ _ (frmN k s ys) (r.take (21 + n)) _ hm21 hm21 HF2.out HBF2.out).mono ?_; rintro e w3 ⟨rfl, q3, hq3⟩; rw [HSM.out]; have HB3 : Hid (Below w.heap.size w w3) := Lib.hid (by rw [hq3]; exact below_drewN HB2.out _); have HA3 : Hid (Below wA.heap.size wA w3) := Lib.hid (by rw [hq3]; exact below_drewN HA2.out _); have HR3 := Lib.hid (row_later HR.out HA3.out); obtain ⟨z0, z1, z2, z3, f0, f1, f2, f3⟩ := row4 HR3.out; clear hq3))
      go_wp2
      refine bodyPost_ret (res_tmp (c4_stored HR3.out _ _ _ _) rfl _ rfl Try.underlying69 size29f) rfl ?_
      exact ⟨none, 0, 0, rfl, Bs.empty _ _, Nat.le_refl _, Nat.zero_le _, fun _ => rfl, below4 HB3.out (Nat.le_refl _) _ _ _ _⟩
    | true =>
      have e4 : E = 0 := by rw [HEK.out]; rfl
      subst e4
      have e3 := HFO.out rfl
      subst e3
      dsimp only
      have hms : IntKind.i64.wrap ((m : Int) + 21 + (n : Int)) = (m : Int) + 21 + (n : Int) := by simp [IntKind.wrap, IntKind.bits, IntKind.signed]; omega
      have HQC : Hid (n ≤ C - 17 ∧ C - 17 ≤ maxLen) := Lib.hid (by omega)
      clear HFO HFE HEK
      go_enter Try.func28, Try.ntmps28
      go_wp2_with (first
        | (go_at_call 42; refine (rtake_any _ N C r _ _ _ HBS.out hm (by omega) (by omega)).mono ?_; rintro e w' ⟨rfl, rfl⟩; first | rw [HSQ.out] | rw [HSZ.out] | rw [HSH.out])
        | (go_at_call 32; refine (rcrc_any _ 13 C (r.take 13) _ HB13.out (by omega)).mono ?_; rintro e w1 ⟨rfl, hb1⟩; rw [HQ.out]; have HR1 := Lib.hid (row_later HR.out hb1); have HB1 := Lib.hid (below_step HBA.out hb1); obtain ⟨z0, z1, z2, z3, f0, f1, f2, f3⟩ := row4 HR1.out; have HBA1 := Lib.hid hb1; have hc0 := HC0.out _ hb1; clear hb1))
      have HBAD := Lib.hid HBA1.out.drew
      have HB1D := Lib.hid HB1.out.drew
      have HDY := Lib.hid (HBD.out.later HBAD.out)
      go_region_held3 (fun _ => True) (trivial) (first
        | (go_at_call 21; refine (rmake_any k s _ n _ ys _ HDY.out (fun h => by cases h) (by omega) (by omega)).mono ?_; rintro e w2 ⟨v2, rfl, ho2, hb2⟩; obtain ⟨p2, c2, hv2, hlc2, hcm2, hbs2, hpc2⟩ := ho2.open; rw [HFL.out] at hv2 hlc2 hbs2; subst hv2; have HF2 := Lib.hid hbs2; have HA2 := Lib.hid (below_step HBAD.out hb2); have HB2 := Lib.hid (below_step HB1D.out hb2); have HBF2 := Lib.hid (HBF.out.later HA2.out); clear ho2 hb2 hbs2 hlc2 hcm2 hpc2)
        | (go_at_call 8; refine (same_any _ _ (21 + n) (21 + n) _ _ (frmN k s ys) (r.take (21 + n)) _ hm21 hm21 HF2.out HBF2.out).mono ?_; rintro e w3 ⟨rfl, q3, hq3⟩; rw [HSM.out]; have HB3 : Hid (Below w.heap.size w w3) := Lib.hid (by rw [hq3]; exact below_drewN HB2.out _); have HA3 : Hid (Below wA.heap.size wA w3) := Lib.hid (by rw [hq3]; exact below_drewN HA2.out _); have HR3 := Lib.hid (row_later HR.out HA3.out); obtain ⟨z0, z1, z2, z3, f0, f1, f2, f3⟩ := row4 HR3.out; clear hq3))
      go_wp2
      refine bodyPost_ret (res_tmp (c4_stored HR3.out _ _ _ _) rfl _ rfl Try.underlying69 size29f) rfl ?_
      exact ⟨some ⟨b, o + 17, none⟩, n, C - 17, rfl, HBW.out.later (below4 HB3.out (Nat.le_refl _) _ _ _ _), HQC.out.1, HQC.out.2, (fun h => by cases h), below4 HB3.out (Nat.le_refl _) _ _ _ _⟩
  · have hok : okN r 13 = false := by rw [HOK.out]; simpa using h5
    have e4 : E = 5 := by rw [HEE.out]; unfold rdE; rw [if_neg (by omega), if_pos hok]
    subst e4
    have e3 := HFE.out (by omega)
    subst e3
    unfold fr0
    dsimp only
    have hne : (hd != (q : Int)) = true := by simpa using h5
    clear HEE HFE HFO hbs hpc2 HOK hok h5
    go_enter Try.func28, Try.ntmps28
    go_wp2_with (first
      | (go_at_call 42; refine (rtake_any _ N C r _ _ _ HBS.out hm (by omega) (by omega)).mono ?_; rintro e w' ⟨rfl, rfl⟩; first | rw [HSQ.out] | rw [HSZ.out] | rw [HSH.out])
      | (go_at_call 32; refine (rcrc_any _ 13 C (r.take 13) _ HB13.out (by omega)).mono ?_; rintro e w1 ⟨rfl, hb1⟩; rw [HQ.out]; have HR1 := Lib.hid (row_later HR.out hb1); have HB1 := Lib.hid (below_step HBA.out hb1); obtain ⟨z0, z1, z2, z3, f0, f1, f2, f3⟩ := row4 HR1.out; clear hb1))
    refine bodyPost_ret (res_tmp (c4_stored HR1.out _ _ _ _) rfl _ rfl Try.underlying69 size29f) rfl ?_
    exact ⟨none, 0, 0, rfl, Bs.empty _ _, Nat.le_refl _, Nat.zero_le _, fun _ => rfl, below4 HB1.out (Nat.le_refl _) _ _ _ _⟩
end Go.Proofs.Ytjdigncieoaglaa
