/- Layer 13, the law: same, bytes, lives. -/
import Derived.Test.YtfpelocemceffaaFraS
import Derived.Test.YtfpelocemceffaaSame
namespace Go.Proofs.Ytfpelocemceffaa
set_option linter.unusedVariables false
open Go.RowKit Go.Lib

set_option maxRecDepth 100000 in
set_option maxHeartbeats 1000000 in
theorem fsame_any (k s e : Int) (q : Option Addr) (n c : Nat) (q' : Option Addr) (n' c' : Nat) (xs : List Int) (w : World) (h : Bs w q n xs) (h' : Bs w q' n' xs) (hn : n ≤ maxLen) :
    Calls Try.prog 8 #[frV k s q n c e, frV k s q' n' c' e] w fun e w' => e = .returned (.bool true) ∧ Below w.heap.size w w' := by
  obtain ⟨wA, hA⟩ : ∃ W, w.alloc (.cells #[.int .i64 k, .int .u64 s, .slice q n c, .int .i64 e] 25) = W := ⟨_, rfl⟩
  have hR : wA.heap[w.heap.size]? = some (.cells #[.int .i64 k, .int .u64 s, .slice q n c, .int .i64 e] 25 (0, 0)) := by rw [← hA]; exact heap_alloc_new _ _
  have hBA : Below w.heap.size w wA := by rw [← hA]; exact (Below.refl _ _).alloc (Nat.le_refl _) _
  obtain ⟨wB, hB⟩ : ∃ W, wA.alloc (.cells #[.int .i64 k, .int .u64 s, .slice q' n' c', .int .i64 e] 29) = W := ⟨_, rfl⟩
  have hR' : wB.heap[wA.heap.size]? = some (.cells #[.int .i64 k, .int .u64 s, .slice q' n' c', .int .i64 e] 29 (0, 0)) := by rw [← hB]; exact heap_alloc_new _ _
  have hBB : Below wA.heap.size wA wB := by rw [← hB]; exact (Below.refl _ _).alloc (Nat.le_refl _) _
  have HBB := Lib.hid (below_step hBA hBB)
  have HRA := Lib.hid (row_later hR hBB)
  have HRC := Lib.hid hR'
  obtain ⟨a0, a1, a2, a3, _⟩ := row4 (row_later hR hBB)
  obtain ⟨b0, b1, b2, b3, _⟩ := row4 hR'
  have HX := Lib.hid (h.later HBB.out)
  have HY := Lib.hid (h'.later HBB.out)
  have hn' : n' ≤ maxLen := by rw [← h'.len, h.len]; exact hn
  have HD : Hid (decide (xs = xs) = true) := Lib.hid (by simp)
  clear h h' hR hBA hR' hBB
  unfold frV
  go_enter Try.func8, Try.ntmps8
  go_wp2_with (go_at_call 11; refine (same_any _ _ n n' _ _ xs xs _ hn hn' HX.out HY.out).mono ?_; rintro e w3 ⟨rfl, q3, hq3⟩; rw [HD.out]; have HB3 : Hid (Below w.heap.size w w3) := Lib.hid (by rw [hq3]; exact below_drewN HBB.out _); have hb3 : Below wB.heap.size wB w3 := by { rw [hq3]; exact below_drewN (Below.refl _ _) _ }; obtain ⟨x0, x1, x2, x3, _⟩ := row4 (row_later HRA.out hb3); obtain ⟨y0, y1, y2, y3, _⟩ := row4 (row_later HRC.out hb3); clear hq3 hb3)
  go_ret
  exact ⟨rfl, HB3.out⟩

/-- a frame to be made, as a value -/
def mdV (k s : Int) (p : Option Addr) (n c : Nat) (pa : Option Addr) (na ca : Nat) (pe : Option Addr) (ne ce : Nat) : Value := .agg #[.int .i64 k, .int .u64 s, .slice p n c, .slice pa na ca, .slice pe ne ce]
theorem row5k {w : World} {g : Nat} {a0 a1 a2 a3 a4 : Value} {t : TypeId} (h : w.heap[g]? = some (.cells #[a0, a1, a2, a3, a4] t (0, 0))) :
    w.cell? ⟨g, 0, none⟩ = some a0 ∧ w.cell? ⟨g, 1, none⟩ = some a1 ∧ w.cell? ⟨g, 2, none⟩ = some a2 ∧ w.cell? ⟨g, 3, none⟩ = some a3 ∧ w.cell? ⟨g, 4, none⟩ = some a4 :=
  ⟨cell_rowH _ _ _ _ _ h, cell_rowH _ _ _ _ _ h, cell_rowH _ _ _ _ _ h, cell_rowH _ _ _ _ _ h, cell_rowH _ _ _ _ _ h⟩

set_option maxRecDepth 100000 in
set_option maxHeartbeats 1000000 in
theorem fbytes_any (k s : Int) (p : Option Addr) (n c : Nat) (zs : List Int) (pa : Option Addr) (na ca : Nat) (az : List Int) (pe : Option Addr) (ne ce : Nat) (es : List Int) (w : World)
    (h : Bs w p n zs) (hpc : p = none → c = 0) (ha : Bs w pa na az) (hpa : pa = none → ca = 0) (he : Bs w pe ne es) (hpe : pe = none → ce = 0) (hn : n ≤ 1048576) (hna : na ≤ 1048576) (hne : ne ≤ 1048576) (hs : 0 ≤ s ∧ s < 18446744073709551616) :
    Calls Try.prog 14 #[mdV k s p n c pa na ca pe ne ce] w fun e w' => ∃ v, e = .returned v ∧ Ob w' w.heap.size 5 v (az ++ frmN k s zs ++ es) ∧ Below w.heap.size w w' := by
  obtain ⟨wA, hA⟩ : ∃ W, w.alloc (.cells #[.int .i64 k, .int .u64 s, .slice p n c, .slice pa na ca, .slice pe ne ce] 36) = W := ⟨_, rfl⟩
  have HR : Hid (wA.heap[w.heap.size]? = some (.cells #[.int .i64 k, .int .u64 s, .slice p n c, .slice pa na ca, .slice pe ne ce] 36 (0, 0))) := Lib.hid (by rw [← hA]; exact heap_alloc_new _ _)
  have HBA : Hid (Below w.heap.size w wA) := Lib.hid (by rw [← hA]; exact (Below.refl _ _).alloc (Nat.le_refl _) _)
  have kA := row5k HR.out
  have kB := row5k (row_later HR.out (Below.refl _ _).drew)
  have kC := row5k (row_later HR.out (((Below.refl _ _).alloc (Nat.le_refl _) (.cells #[] 5)).drew))
  have HQ0 : Hid (Below wA.heap.size wA (wA.alloc (.cells #[] 5)).drew) := Lib.hid (((Below.refl _ _).alloc (Nat.le_refl _) _).drew)
  have HO0 : Hid (Ob (wA.alloc (.cells #[] 5)).drew wA.heap.size 5 (.slice (some ⟨wA.heap.size, 0, none⟩) 0 0) []) := Lib.hid ((ob_lit wA 5 #[] [] 0 rfl (by unfold maxLen; omega) (fun j => by simp) rfl).later (Below.refl _ _).drew)
  have HZ := Lib.hid (h.later HBA.out)
  have HA := Lib.hid (ha.later HBA.out)
  have HE := Lib.hid (he.later HBA.out)
  have HPC := Lib.hid hpc
  have HPA := Lib.hid hpa
  have HPE := Lib.hid hpe
  obtain ⟨F, hF⟩ : ∃ F, frmN k s zs = F := ⟨_, rfl⟩
  have HF := Lib.hid hF
  obtain ⟨L, hL⟩ : ∃ L, F.length = L := ⟨_, rfl⟩
  have hL2 : L = n + 21 := by rw [← hL, ← hF, frmN_length, h.len]
  have HL := Lib.hid hL
  have HLA : Hid (az.length = na) := Lib.hid ha.len
  have HX0 : Hid (([] : List Int).length + na ≤ 140737488355328) := Lib.hid (by simp; omega)
  have HX1 : Hid (az.length + L ≤ 140737488355328) := Lib.hid (by rw [HLA.out]; omega)
  have HX2 : Hid ((az ++ F).length + ne ≤ 140737488355328) := Lib.hid (by rw [List.length_append, HLA.out, hL]; omega)
  rw [hF]
  clear h ha he hpc hpa hpe hF hL hL2
  unfold mdV
  go_enter Try.func14, Try.ntmps14
  go_wp2_with fail
  go_region_held3 (fun W => W.cell? ⟨w.heap.size, 0, none⟩ = some (.int .i64 k) ∧ W.cell? ⟨w.heap.size, 1, none⟩ = some (.int .u64 s) ∧ W.cell? ⟨w.heap.size, 2, none⟩ = some (.slice p n c) ∧ W.cell? ⟨w.heap.size, 3, none⟩ = some (.slice pa na ca) ∧ W.cell? ⟨w.heap.size, 4, none⟩ = some (.slice pe ne ce)) (first | exact kA | exact kB | exact kC | exact kD | exact kE | exact kF) (first
    | (refine step_append_bytes rfl (.tmp 4) (.tmp 6) 22 5 rfl Try.underlying22 info8 wA.heap.size _ [] rfl HO0.out pa na ca az rfl (HA.out.later HQ0.out) HPA.out HX0.out HQ0.out.size ?_; intro v1 w1 ho1 hg1; rw [List.nil_append] at ho1; have HO1 := Lib.hid ho1; have HB1 := Lib.hid (below_new HQ0.out HO0.out hg1 HQ0.out.size); have kD := row5k (row_later HR.out HB1.out); clear ho1 hg1)
    | (go_at_call 10; refine (fmake_any k s p n c zs _ (HZ.out.later HB1.out) HPC.out (by omega) hs).mono ?_; rintro e w2 ⟨v2, rfl, ho2, hb2⟩; rw [HF.out] at ho2; have HO2 := Lib.hid (HO1.out.later hb2); have HB2 := Lib.hid (below_step HB1.out hb2); have kE := row5k (row_later HR.out HB2.out); obtain ⟨p2, c2, hv2, hlc2, hcm2, hbs2, hpc2⟩ := ho2.open; rw [HL.out] at hv2 hlc2 hbs2; subst hv2; have HD2 := Lib.hid hbs2; have HP2 := Lib.hid hpc2; clear ho2 hb2 hbs2 hpc2)
    | (refine step_append_bytes rfl (.tmp 7) (.tmp 14) 22 5 rfl Try.underlying22 info8 wA.heap.size _ az rfl HO2.out p2 L c2 F rfl HD2.out HP2.out HX1.out HB2.out.size ?_; intro v3 w3 ho3 hg3; have HO3 := Lib.hid ho3; have HB3 := Lib.hid (below_new HB2.out HO2.out hg3 HB2.out.size); have kF := row5k (row_later HR.out HB3.out); obtain ⟨f0, f1, f2, f3, f4⟩ := (row5k (row_later HR.out HB3.out)); clear ho3 hg3))
  go_wp2_with (refine wpList_append_bytes rfl (.tmp 16) (.tmp 18) 22 5 rfl Try.underlying22 info8 wA.heap.size _ (az ++ F) rfl HO3.out pe ne ce es rfl (HE.out.later HB3.out) HPE.out HX2.out HB3.out.size ?_; intro v4 w4 ho4 hg4; have HO4 := Lib.hid ho4; have HB4 := Lib.hid (below_new HB3.out HO3.out hg4 HB3.out.size); clear ho4 hg4)
  go_ret
  exact ⟨_, rfl, HO4.out.mono HBA.out.size, below_step HBA.out HB4.out⟩
end Go.Proofs.Ytfpelocemceffaa
