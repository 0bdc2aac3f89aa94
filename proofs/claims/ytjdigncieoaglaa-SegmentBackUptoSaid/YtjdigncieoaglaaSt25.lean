/- Layer 13, the program: readHead; Layer 13, the program: read -/
import Derived.Test.YtjdigncieoaglaaSt23
import Derived.Laws.ResultCell
set_option linter.unusedSimpArgs false
set_option linter.unusedVariables false
namespace Go.Proofs.Ytjdigncieoaglaa
set_option linter.unusedVariables false
open Go.RowKit Go.Lib

theorem res_tmp {fn : Func} {p u : Tmp} {t : TypeId} {fs : Array Field} {w : World} {g : Nat} {cs : Array Value} (hg : w.heap[g]? = some (.cells cs t (0, 0))) (h : fn.results = #[.cell p t, .tmp u]) (tmps : Array Value)
    (hp : tmps.getD p undef = .pointer (some ⟨g, 0, none⟩)) (hu : Try.prog.underlying t = some (.struct fs)) (hs : (Try.prog.info? t).map (·.size) = some cs.size) : (Go.results fn tmps).run Try.prog w = .ok (.tuple #[.agg cs, tmps.getD u undef]) w := by
  rw [results_cell_tmp h, hp]
  simp only [asAddr, Sem.run_pure, Result.andThen]
  rw [run_loadVar_row (P := Try.prog) w g _ t _ _ _ hg hu rfl hs]
theorem c3_stored {w : World} {g : Nat} {a0 a1 a2 : Value} {t : TypeId} (h : w.heap[g]? = some (.cells #[a0, a1, a2] t (0, 0))) (v0 v1 v2 : Value) :
    (((w.setCell ⟨g, 0, none⟩ v0).setCell ⟨g, 1, none⟩ v1).setCell ⟨g, 2, none⟩ v2).heap[g]? = some (.cells #[v0, v1, v2] t (0, 0)) := by
  rw [heap_setCell_same _ g 2 _ t v2 (heap_setCell_same _ g 1 _ t v1 (heap_setCell_same w g 0 _ t v0 h))]
  rfl
theorem c4_stored {w : World} {g : Nat} {a0 a1 a2 a3 : Value} {t : TypeId} (h : w.heap[g]? = some (.cells #[a0, a1, a2, a3] t (0, 0))) (v0 v1 v2 v3 : Value) :
    ((((w.setCell ⟨g, 0, none⟩ v0).setCell ⟨g, 1, none⟩ v1).setCell ⟨g, 2, none⟩ v2).setCell ⟨g, 3, none⟩ v3).heap[g]? = some (.cells #[v0, v1, v2, v3] t (0, 0)) := by
  rw [heap_setCell_same _ g 3 _ t v3 (heap_setCell_same _ g 2 _ t v2 (heap_setCell_same _ g 1 _ t v1 (heap_setCell_same w g 0 _ t v0 h)))]
  rfl
theorem cell_rowH (w : World) (g j : Nat) (cs : Array Value) (t : TypeId) (h : w.heap[g]? = some (.cells cs t (0, 0))) : w.cell? ⟨g, j, none⟩ = cs[j]? := by
  simp [World.cell?, h]
theorem froz_rowH (w : World) (g j : Nat) (cs : Array Value) (t : TypeId) (h : w.heap[g]? = some (.cells cs t (0, 0))) : w.frozen? ⟨g, j, none⟩ = false := by
  simp [World.frozen?, h]
theorem row3 {w : World} {g : Nat} {a0 a1 a2 : Value} {t : TypeId} (h : w.heap[g]? = some (.cells #[a0, a1, a2] t (0, 0))) :
    w.cell? ⟨g, 0, none⟩ = some a0 ∧ w.cell? ⟨g, 1, none⟩ = some a1 ∧ w.cell? ⟨g, 2, none⟩ = some a2 ∧ w.frozen? ⟨g, 0, none⟩ = false ∧ w.frozen? ⟨g, 1, none⟩ = false ∧ w.frozen? ⟨g, 2, none⟩ = false :=
  ⟨cell_rowH _ _ _ _ _ h, cell_rowH _ _ _ _ _ h, cell_rowH _ _ _ _ _ h, froz_rowH _ _ _ _ _ h, froz_rowH _ _ _ _ _ h, froz_rowH _ _ _ _ _ h⟩
theorem row4 {w : World} {g : Nat} {a0 a1 a2 a3 : Value} {t : TypeId} (h : w.heap[g]? = some (.cells #[a0, a1, a2, a3] t (0, 0))) :
    w.cell? ⟨g, 0, none⟩ = some a0 ∧ w.cell? ⟨g, 1, none⟩ = some a1 ∧ w.cell? ⟨g, 2, none⟩ = some a2 ∧ w.cell? ⟨g, 3, none⟩ = some a3 ∧ w.frozen? ⟨g, 0, none⟩ = false ∧ w.frozen? ⟨g, 1, none⟩ = false ∧ w.frozen? ⟨g, 2, none⟩ = false ∧ w.frozen? ⟨g, 3, none⟩ = false :=
  ⟨cell_rowH _ _ _ _ _ h, cell_rowH _ _ _ _ _ h, cell_rowH _ _ _ _ _ h, cell_rowH _ _ _ _ _ h, froz_rowH _ _ _ _ _ h, froz_rowH _ _ _ _ _ h, froz_rowH _ _ _ _ _ h, froz_rowH _ _ _ _ _ h⟩
theorem row_later {w w' : World} {g : Nat} {cs : Array Value} {t : TypeId} (h : w.heap[g]? = some (.cells cs t (0, 0))) (hb : Below w.heap.size w w') : w'.heap[g]? = some (.cells cs t (0, 0)) := by
  rw [hb.block g (Array.getElem?_eq_some_iff.1 h).1]; exact h
theorem below3 {B : Nat} {a w : World} {g : Nat} (hb : Below B a w) (hg : B ≤ g) (v0 v1 v2 : Value) : Below B a (((w.setCell ⟨g, 0, none⟩ v0).setCell ⟨g, 1, none⟩ v1).setCell ⟨g, 2, none⟩ v2) :=
  ((hb.setCell (p := ⟨g, 0, none⟩) hg _).setCell (p := ⟨g, 1, none⟩) hg _).setCell (p := ⟨g, 2, none⟩) hg _
theorem below4 {B : Nat} {a w : World} {g : Nat} (hb : Below B a w) (hg : B ≤ g) (v0 v1 v2 v3 : Value) : Below B a ((((w.setCell ⟨g, 0, none⟩ v0).setCell ⟨g, 1, none⟩ v1).setCell ⟨g, 2, none⟩ v2).setCell ⟨g, 3, none⟩ v3) :=
  (below3 hb hg v0 v1 v2).setCell (p := ⟨g, 3, none⟩) hg _
theorem size46 : (Try.prog.info? 96).map (·.size) = some 3 := by kernel_rfl
theorem two_newH (w : World) (A B : Obj) : ((w.alloc A).alloc B).heap[w.heap.size + 1]? = some B := by
  have := heap_alloc_new (w.alloc A) B
  simpa using this

/-- why bytes don't begin with a head -/
def hdE (r : List Int) : Int := if r.length < 17 then 4 else if okN r 13 = false then 5 else if leN r 0 1 < 1 ∨ leN r 0 1 > 8 ∨ leN r 9 4 > 65536 then 3 else 0
def hdR (r : List Int) : Value := if hdE r = 0 then hdV (leN r 0 1) (leN r 1 8) (leN r 9 4) else hdV 0 0 0

set_option maxRecDepth 100000 in
set_option maxHeartbeats 1000000 in
theorem freadHead_any (p : Option Addr) (len cap : Nat) (zs : List Int) (w : World) (h : Bs w p len zs) (hlc : len ≤ cap) (hlen : len ≤ 140737488351232) :
    Calls Try.prog 76 #[.slice p len cap] w fun e w' => e = .returned (.tuple #[hdR zs, .int .i64 (hdE zs)]) ∧ Below w.heap.size w w' := by
  have hz := h.len
  have HR : Hid ((w.alloc (.cells #[.int .u64 0, .int .u64 0, .int .u64 0] 96)).heap[w.heap.size]? = some (.cells #[.int .u64 0, .int .u64 0, .int .u64 0] 96 (0, 0))) := Lib.hid (heap_alloc_new _ _)
  obtain ⟨wA, hA⟩ : ∃ W, w.alloc (.cells #[.int .u64 0, .int .u64 0, .int .u64 0] 96) = W := ⟨_, rfl⟩
  have HBA : Hid (Below w.heap.size w wA) := Lib.hid (by rw [← hA]; exact (Below.refl _ _).alloc (Nat.le_refl _) _)
  rw [hA] at HR
  by_cases h1 : len < 17
  · have HE : Hid (hdE zs = 4) := Lib.hid (by unfold hdE; rw [if_pos (by omega)])
    unfold hdR
    rw [HE.out, if_neg (by omega)]
    clear h hz
    go_enter Try.func76, Try.ntmps76
    obtain ⟨z0, z1, z2, f0, f1, f2⟩ := row3 HR.out
    go_wp2
    refine bodyPost_ret (res_tmp (c3_stored HR.out _ _ _) rfl _ rfl Try.underlying96 size46) rfl ?_
    exact ⟨rfl, below3 HBA.out (Nat.le_refl _) _ _ _⟩
  · have HZ3 := h.2.2
    rcases HZ3 with h0 | ⟨b, off, rfl, _⟩
    · omega
    have HT17 := Lib.hid ((h.take 17 (by omega)).later HBA.out)
    have HT13 := Lib.hid ((h.take 13 (by omega)).later HBA.out)
    have HO : Hid (okN (zs.take 17) 13 = okN zs 13) := Lib.hid (okN_take zs 13 17 (by omega))
    have HU : Hid (Calls Try.prog 77 #[.slice (some ⟨b, off, none⟩) 17 cap] wA fun e w' => e = .returned (.tuple #[if okN zs 13 then .slice (some ⟨b, off, none⟩) 13 cap else .slice none 0 0, .bool (okN zs 13)]) ∧ Below wA.heap.size wA w') :=
      Lib.hid (by rw [← HO.out]; exact funsealed_any b off 13 cap (zs.take 17) wA HT17.out (by omega) (by omega))
    have hsl := fun W => run_slice_to (P := Try.prog) W 23 5 Try.underlying23 (fun _ => by kernel_rfl) b off len cap 17 (by omega)
    have hs : ¬ (len : Int) < 17 := by omega
    by_cases hok : okN zs 13 = false
    · have HE : Hid (hdE zs = 5) := Lib.hid (by unfold hdE; rw [if_neg (by omega), if_pos hok])
      unfold hdR
      rw [HE.out, if_neg (by omega)]
      rw [hok] at HU
      clear h hz HT17 HT13 HO hok h1
      go_enter Try.func76, Try.ntmps76
      go_wp2_with (go_at_call 77; refine HU.out.mono ?_; rintro e w1 ⟨rfl, hb1⟩; obtain ⟨z0, z1, z2, f0, f1, f2⟩ := row3 (row_later HR.out hb1); have HR1 := Lib.hid (row_later HR.out hb1); have HB1 := Lib.hid (below_step HBA.out hb1); clear hb1)
      refine bodyPost_ret (res_tmp (c3_stored HR1.out _ _ _) rfl _ rfl Try.underlying96 size46) rfl ?_
      exact ⟨rfl, below3 HB1.out (Nat.le_refl _) _ _ _⟩
    · have hok : okN zs 13 = true := by simpa using hok
      have HK : Hid (takeN (zs.take 13) 0 1 = leN zs 0 1) := Lib.hid ((takeN_n (zs.take 13) 0 1 (by omega) (by omega) (by simp; omega)).trans (leN_take zs 0 1 13 (by omega)))
      have HS : Hid (takeN (zs.take 13) 1 8 = leN zs 1 8) := Lib.hid ((takeN_n (zs.take 13) 1 8 (by omega) (by omega) (by simp; omega)).trans (leN_take zs 1 8 13 (by omega)))
      have HZ : Hid (takeN (zs.take 13) 9 4 = leN zs 9 4) := Lib.hid ((takeN_n (zs.take 13) 9 4 (by omega) (by omega) (by simp; omega)).trans (leN_take zs 9 4 13 (by omega)))
      have HE : Hid (hdE zs = if leN zs 0 1 < 1 ∨ leN zs 0 1 > 8 ∨ leN zs 9 4 > 65536 then 3 else 0) := Lib.hid (by unfold hdE; rw [if_neg (by omega), if_neg (by rw [hok]; simp)])
      unfold hdR
      rw [HE.out]
      rw [hok] at HU
      have hkb := leN_bd zs h.byte 0 1
      have hsb := leN_bd zs h.byte 1 8
      have hzb := leN_bd zs h.byte 9 4
      generalize leN zs 0 1 = k at *
      generalize leN zs 1 8 = s at *
      generalize leN zs 9 4 = z at *
      have hm : 13 ≤ maxLen := by unfold maxLen; omega
      obtain ⟨R, hR⟩ : ∃ R, Value.tuple #[if (if k < 1 ∨ k > 8 ∨ z > 65536 then (3 : Int) else 0) = 0 then hdV k s z else hdV 0 0 0, .int .i64 (if k < 1 ∨ k > 8 ∨ z > 65536 then 3 else 0)] = R := ⟨_, rfl⟩
      have HY : Hid (¬ (k < 1 ∨ k > 8 ∨ z > 65536) → Value.tuple #[hdV k s z, .int .i64 0] = R) := Lib.hid fun hp => by rw [← hR, if_neg hp]; rfl
      have HN : Hid ((k < 1 ∨ k > 8 ∨ z > 65536) → Value.tuple #[hdV 0 0 0, .int .i64 3] = R) := Lib.hid fun hp => by rw [← hR, if_pos hp]; rfl
      rw [hR]
      clear h hz HT17 HO hok h1 HE hR
      go_enter Try.func76, Try.ntmps76
      go_wp2_with (first
        | (go_at_call 77; refine HU.out.mono ?_; rintro e w1 ⟨rfl, hb1⟩; have HR1 := Lib.hid (row_later HR.out hb1); have HB1 := Lib.hid (below_step HBA.out hb1); have HD1 := Lib.hid (HT13.out.later hb1); have HRB := Lib.hid (row_later HR1.out ((Below.refl w1.heap.size w1).alloc (Nat.le_refl _) (.cells #[.int .u64 k, .int .u64 s, .int .u64 z] 96))); have HBB := Lib.hid (HB1.out.alloc HB1.out.size (.cells #[.int .u64 k, .int .u64 s, .int .u64 z] 96)); obtain ⟨z0, z1, z2, f0, f1, f2⟩ := row3 HRB.out; clear hb1)
        | (go_at_call 82; refine (fnumber_any _ 13 cap (zs.take 13) _ _ _ HD1.out hm (by omega)).mono ?_; rintro e w' ⟨rfl, rfl⟩; first | rw [HK.out] | rw [HS.out] | rw [HZ.out]))
      all_goals (refine bodyPost_ret (res_tmp (c3_stored HRB.out _ _ _) rfl _ rfl Try.underlying96 size46) rfl ?_)
      all_goals (refine ⟨?_, below3 HBB.out (Nat.le_refl _) _ _ _⟩)
      all_goals (first
        | (rw [← HY.out (by omega)]; rfl)
        | (rw [← HN.out (by omega)]; rfl))
end Go.Proofs.Ytjdigncieoaglaa

namespace Go.Proofs.Ytjdigncieoaglaa
set_option linter.unusedVariables false
open Go.RowKit Go.Lib

theorem size48 : (Try.prog.info? 98).map (·.size) = some 4 := by kernel_rfl
/-- parts, as a value -/
def ptV (k s z : Int) (p : Option Addr) (n c : Nat) : Value := .agg #[.int .u64 k, .int .u64 s, .int .u64 z, .slice p n c]
def ptC (k s z : Int) (p : Option Addr) (n c : Nat) : Array Value := #[.int .u64 k, .int .u64 s, .int .u64 z, .slice p n c]

theorem rdE_hd (r : List Int) : rdE r = if hdE r ≠ 0 then hdE r else if r.length < (leN r 9 4).toNat + 21 then 4 else if okN r (17 + (leN r 9 4).toNat) = false then 5 else 0 := by
  unfold rdE hdE
  by_cases h1 : r.length < 17
  · simp [h1]
  by_cases h2 : okN r 13 = false
  · simp [h1, h2]
  by_cases h3 : leN r 0 1 < 1 ∨ leN r 0 1 > 8 ∨ leN r 9 4 > 65536
  · simp only [if_neg h1, if_neg h2, if_pos h3]; rfl
  · simp only [if_neg h1, if_neg h2, if_neg h3]; rfl
theorem hdE_ok {r : List Int} (h : hdE r = 0) : 17 ≤ r.length ∧ okN r 13 = true ∧ 1 ≤ leN r 0 1 ∧ leN r 0 1 ≤ 8 ∧ leN r 9 4 ≤ 65536 := by
  unfold hdE at h
  split at h
  · omega
  split at h
  · omega
  split at h
  · omega
  rename_i h1 h2 h3
  refine ⟨by omega, by simpa using h2, by omega, by omega, by omega⟩

set_option maxRecDepth 100000 in
set_option maxHeartbeats 1000000 in
/-- what read answers: of bytes with no frame at their front, no parts -/
theorem fread_any (p : Option Addr) (len cap : Nat) (zs : List Int) (w : World) (h : Bs w p len zs) (hlc : len ≤ cap) (hlen : len ≤ 140737488351232) :
    Calls Try.prog 67 #[.slice p len cap] w fun e w' => ∃ (q : Option Addr) (n c : Nat), e = .returned (.tuple #[if rdE zs = 0 then ptV (leN zs 0 1) (leN zs 1 8) (n : Int) q n c else ptV 0 0 0 none 0 0, .int .i64 (rdE zs)]) ∧
      (rdE zs = 0 → Bs w q n ((zs.drop 17).take n) ∧ (n : Int) = leN zs 9 4 ∧ n ≤ c ∧ n ≤ 65536 ∧ n + 21 ≤ len ∧ (q = none → c = 0)) ∧ Below w.heap.size w w' := by
  have hz := h.len
  have HR : Hid ((w.alloc (.cells (ptC 0 0 0 none 0 0) 98)).heap[w.heap.size]? = some (.cells (ptC 0 0 0 none 0 0) 98 (0, 0))) := Lib.hid (heap_alloc_new _ _)
  unfold ptC at HR
  obtain ⟨wA, hA⟩ : ∃ W, w.alloc (.cells #[.int .u64 0, .int .u64 0, .int .u64 0, .slice none 0 0] 98) = W := ⟨_, rfl⟩
  have HBA : Hid (Below w.heap.size w wA) := Lib.hid (by rw [← hA]; exact (Below.refl _ _).alloc (Nat.le_refl _) _)
  rw [hA] at HR
  have HHD := Lib.hid (freadHead_any p len cap zs wA (h.later HBA.out) hlc hlen)
  have HRD := Lib.hid (rdE_hd zs)
  unfold hdR at HHD
  by_cases h1 : hdE zs = 0
  · obtain ⟨a1, a2, a3, a4, a5⟩ := hdE_ok h1
    have hb9 := leN_bd zs h.byte 9 4
    obtain ⟨n, hn⟩ := Int.eq_ofNat_of_zero_le hb9.1
    rw [h1, if_neg (by omega), hn, Int.toNat_natCast] at HRD
    rw [h1, if_pos rfl, hn] at HHD
    have HNE : Hid (leN zs 9 4 = (n : Int)) := Lib.hid hn
    have HZ3 := h.2.2
    rcases HZ3 with h0 | ⟨b, off, rfl, _⟩
    · omega
    have HA := Lib.hid (h.later HBA.out)
    have H := Lib.hid h
    have HD17 : Hid (n + 21 ≤ len → ∀ W, Bs W (some ⟨b, off, none⟩) len zs → Bs W (some ⟨b, off + 17, none⟩) n ((zs.drop 17).take n)) := Lib.hid fun hl W hW => hW.window 17 n (by omega)
    generalize leN zs 0 1 = k at *
    generalize leN zs 1 8 = s at *
    obtain ⟨wB, hB⟩ : ∃ W, wA = W := ⟨_, rfl⟩
    by_cases h2 : len < n + 21
    · have hr : rdE zs = 4 := by rw [HRD.out, if_pos (by omega)]
      rw [hr]
      have hlt : (len : Int) < (n : Int) + 21 := by omega
      have hn5 : n ≤ 4294967296 := by omega
      clear h hz HRD hr hB h1 hn a1 a2 a3 a4 a5 hb9
      unfold hdV at HHD
      go_enter Try.func67, Try.ntmps67
      go_wp2_with (first
        | (go_at_call 76; refine HHD.out.mono ?_; rintro e w1 ⟨rfl, hb1⟩; have HRB := Lib.hid (row_later HR.out (hb1.alloc hb1.size (.cells #[.int .u64 k, .int .u64 s, .int .u64 n] 96))); have HBB := Lib.hid ((below_step HBA.out hb1).alloc (below_step HBA.out hb1).size (.cells #[.int .u64 k, .int .u64 s, .int .u64 n] 96)); clear hb1)
        | (go_at_call 69; refine (hlength_any k s n _ hn5).mono ?_; rintro e w2 ⟨rfl, hb2⟩; have HR2 := Lib.hid (row_later HRB.out hb2); have HB2 := Lib.hid (below_step HBB.out hb2); obtain ⟨z0, z1, z2, z3, f0, f1, f2, f3⟩ := row4 HR2.out; clear hb2))
      refine bodyPost_ret (res_tmp (c4_stored HR2.out _ _ _ _) rfl _ rfl Try.underlying98 size48) rfl ?_
      exact ⟨rfl, below4 HB2.out (Nat.le_refl _) _ _ _ _⟩
    · have hlt : ¬ (len : Int) < (n : Int) + 21 := by omega
      have hn5 : n ≤ 4294967296 := by omega
      have HT := Lib.hid (h.take (n + 21) (by omega))
      have HO : Hid (okN (zs.take (17 + n + 4)) (17 + n) = okN zs (17 + n)) := Lib.hid (okN_take zs (17 + n) (17 + n + 4) (by omega))
      have HU : Hid (∀ W, Below wA.heap.size wA W → Calls Try.prog 77 #[.slice (some ⟨b, off, none⟩) (n + 21) cap] W fun e w' => e = .returned (.tuple #[if okN zs (17 + n) then .slice (some ⟨b, off, none⟩) (17 + n) cap else .slice none 0 0, .bool (okN zs (17 + n))]) ∧ Below W.heap.size W w') :=
        Lib.hid fun W hW => by
          rw [← HO.out, show n + 21 = 17 + n + 4 by omega]
          exact funsealed_any b off (17 + n) cap (zs.take (17 + n + 4)) W ((HA.out.later hW).take (17 + n + 4) (by omega)) (by omega) (by omega)
      have hsl := fun W => run_slice_to (P := Try.prog) W 23 5 Try.underlying23 (fun _ => by kernel_rfl) b off len cap (n + 21) (by omega)
      rw [show (((n + 21 : Nat) : Int)) = (n : Int) + 21 by omega] at hsl
      cases hok : okN zs (17 + n) with
      | false =>
        rw [hok] at HU
        have hr : rdE zs = 5 := by rw [HRD.out, if_neg (by omega), if_pos hok]
        rw [hr]
        clear h hz HRD hr hB h1 hn a1 a2 a3 a4 a5 hb9 HO HT h2 hok
        unfold hdV at HHD
        go_enter Try.func67, Try.ntmps67
        go_wp2_with (first
          | (go_at_call 76; refine HHD.out.mono ?_; rintro e w1 ⟨rfl, hb1⟩; have HRB := Lib.hid (row_later HR.out (hb1.alloc hb1.size (.cells #[.int .u64 k, .int .u64 s, .int .u64 n] 96))); have HBB := Lib.hid ((hb1).alloc (hb1).size (.cells #[.int .u64 k, .int .u64 s, .int .u64 n] 96)); have HHB := Lib.hid (heap_alloc_new w1 (.cells #[.int .u64 k, .int .u64 s, .int .u64 n] 96)); clear hb1)
          | (go_at_call 69; (fail_if_success (have hh := HB2.out)); refine (hlength_any k s n _ hn5).mono ?_; rintro e w2 ⟨rfl, hb2⟩; have HR2 := Lib.hid (row_later HRB.out hb2); have HH2 := Lib.hid (row_later HHB.out hb2); have HB2 := Lib.hid (below_step HBB.out hb2); obtain ⟨g0, g1, g2, _⟩ := row3 HH2.out; clear hb2)
          | (go_at_call 69; refine (hlength_any k s n _ hn5).mono ?_; rintro e w3 ⟨rfl, hb3⟩; have HR3 := Lib.hid (row_later HR2.out hb3); have HH3 := Lib.hid (row_later HH2.out hb3); have HB3 := Lib.hid (below_step HB2.out hb3); clear hb3)
          | (go_at_call 77; refine (HU.out _ HB3.out).mono ?_; rintro e w4 ⟨rfl, hb4⟩; have HR4 := Lib.hid (row_later HR3.out hb4); have HH4 := Lib.hid (row_later HH3.out hb4); have HB4 := Lib.hid (below_step HB3.out hb4); obtain ⟨z0, z1, z2, z3, f0, f1, f2, f3⟩ := row4 HR4.out; clear hb4))
        refine bodyPost_ret (res_tmp (c4_stored HR4.out _ _ _ _) rfl _ rfl Try.underlying98 size48) rfl ?_
        exact ⟨rfl, below4 (below_step HBA.out HB4.out) (Nat.le_refl _) _ _ _ _⟩
      | true =>
        rw [hok] at HU
        have hr : rdE zs = 0 := by rw [HRD.out, if_neg (by omega), if_neg (by simp [hok])]
        rw [hr]
        have HW3 := Lib.hid (HD17.out (by omega))
        have HL1 : Hid (n ≤ cap - 17) := Lib.hid (by omega)
        have HL2 : Hid (n ≤ 65536) := Lib.hid (by omega)
        have HL3 : Hid (n + 21 ≤ len) := Lib.hid (by omega)
        have hnc : ¬ cap = 17 := by omega
        have hsf := fun W => run_slice_from (P := Try.prog) W 23 5 Try.underlying23 (fun _ => by kernel_rfl) b off (17 + n) cap 17 (by omega)
        rw [if_neg hnc, show 17 + n - 17 = n by omega, show (((17 : Nat) : Int)) = 17 from rfl] at hsf
        clear h hz HRD hr hB h1 hn a1 a2 a3 a4 a5 hb9 HO HT h2 hok hnc
        unfold hdV at HHD
        go_enter Try.func67, Try.ntmps67
        go_wp2_with (first
          | (go_at_call 76; refine HHD.out.mono ?_; rintro e w1 ⟨rfl, hb1⟩; have HRB := Lib.hid (row_later HR.out (hb1.alloc hb1.size (.cells #[.int .u64 k, .int .u64 s, .int .u64 n] 96))); have HBB := Lib.hid ((hb1).alloc (hb1).size (.cells #[.int .u64 k, .int .u64 s, .int .u64 n] 96)); have HHB := Lib.hid (heap_alloc_new w1 (.cells #[.int .u64 k, .int .u64 s, .int .u64 n] 96)); clear hb1)
          | (go_at_call 69; (fail_if_success (have hh := HB2.out)); refine (hlength_any k s n _ hn5).mono ?_; rintro e w2 ⟨rfl, hb2⟩; have HR2 := Lib.hid (row_later HRB.out hb2); have HH2 := Lib.hid (row_later HHB.out hb2); have HB2 := Lib.hid (below_step HBB.out hb2); obtain ⟨g0, g1, g2, _⟩ := row3 HH2.out; clear hb2)
          | (go_at_call 69; refine (hlength_any k s n _ hn5).mono ?_; rintro e w3 ⟨rfl, hb3⟩; have HR3 := Lib.hid (row_later HR2.out hb3); have HH3 := Lib.hid (row_later HH2.out hb3); have HB3 := Lib.hid (below_step HB2.out hb3); clear hb3)
          | (go_at_call 77; refine (HU.out _ HB3.out).mono ?_; rintro e w4 ⟨rfl, hb4⟩; have HR4 := Lib.hid (row_later HR3.out hb4); have HH4 := Lib.hid (row_later HH3.out hb4); have HB4 := Lib.hid (below_step HB3.out hb4); have HR5 := Lib.hid (row_later HR4.out (Below.refl _ _).drew); have HH5 := Lib.hid (row_later HH4.out (Below.refl _ _).drew); have HB5 := Lib.hid (HB4.out.drew); obtain ⟨z0, z1, z2, z3, f0, f1, f2, f3⟩ := row4 HR4.out; obtain ⟨x0, x1, x2, x3, y0, y1, y2, y3⟩ := row4 HR5.out;  obtain ⟨g0, g1, g2, _⟩ := row3 HH4.out; obtain ⟨i0, i1, i2, _⟩ := row3 HH5.out; clear hb4))
        go_region
        go_wp2
        refine bodyPost_ret (res_tmp (c4_stored HR5.out _ _ _ _) rfl _ rfl Try.underlying98 size48) rfl ?_
        exact ⟨some ⟨b, off + 17, none⟩, n, cap - 17, rfl, ⟨HW3.out _ H.out, HNE.out.symm, HL1.out, HL2.out, HL3.out, fun e => by cases e⟩, below4 (below_step HBA.out HB5.out) (Nat.le_refl _) _ _ _ _⟩
  · have hr : rdE zs = hdE zs := by rw [HRD.out, if_pos h1]
    rw [hr]
    rw [if_neg h1] at HHD
    have hne : (hdE zs != 0) = true := by simpa using h1
    generalize hdE zs = x at *
    clear h hz HRD hr
    unfold hdV at HHD
    go_enter Try.func67, Try.ntmps67
    go_wp2_with (go_at_call 76; refine HHD.out.mono ?_; rintro e w1 ⟨rfl, hb1⟩; have HRB := Lib.hid (row_later HR.out (hb1.alloc hb1.size (.cells #[.int .u64 0, .int .u64 0, .int .u64 0] 96))); have HBB := Lib.hid ((below_step HBA.out hb1).alloc (below_step HBA.out hb1).size (.cells #[.int .u64 0, .int .u64 0, .int .u64 0] 96)); obtain ⟨z0, z1, z2, z3, f0, f1, f2, f3⟩ := row4 HRB.out; clear hb1)
    refine bodyPost_ret (res_tmp (c4_stored HRB.out _ _ _ _) rfl _ rfl Try.underlying98 size48) rfl ?_
    exact ⟨rfl, below4 HBB.out (Nat.le_refl _) _ _ _ _⟩
end Go.Proofs.Ytjdigncieoaglaa
