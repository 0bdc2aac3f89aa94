/- Layer 21, the program: find's closure; first; sort.Search (gen_tgzs.py); Layer 21, the program: List's closure; first; sort.Search (gen_tgzs.py) -/
import Derived.Test.YtpfbfhigelbfcaaGreatSd11
import Derived.Deep.Cut
set_option linter.unusedSimpArgs false
set_option linter.unusedVariables false
namespace Go.Proofs.YtpfbfhigelbfcaaGreat
open Go.RowKit Go.Lib
theorem binOp_geq_s (t : TypeId) (a b : ByteArray) : binOp .geq t (.string a) (.string b) = pure (.bool !(Op.bytesLess a.toList b.toList)) := by simp [binOp, Op.stringOp]
attribute [local go_sem] binOp_geq_s
theorem monoF {a b s : ByteArray} (h : nlt a b = true) (hp : (!nlt a s) = true) : (!nlt b s) = true := by
 cases h2 : nlt b s
 ·rfl
 ·rw [nlt_trans h h2] at hp
  cases hp
set_option maxRecDepth 100000 in
theorem cloF_any (x s : ByteArray) (b : Nat) (w : World) (h : w.cell? ⟨b, 0, none⟩ = some (.string s)) : Calls Tryz.prog 129 #[.string x, .pointer (some ⟨b, 0, none⟩)] w fun e w' => e = .returned (.bool (!nlt x s)) ∧ w' = w := by
 go_enter Tryz.func129, Tryz.ntmps129
 go_wp2
 go_ret
 exact ⟨ret_bool (rfl), rfl⟩
/-- a table, and the boxes of what first's closure has caught -/
structure BxF (W : World) (bT : Nat) (F : Nat → Prop) (v : Value) (L : List Tp) (n : Int) (bt bf bs : Nat) (s : ByteArray) : Prop where
 tc : Tc W bT F v L n
 ct : W.cell? ⟨bt, 0, none⟩ = some (.pointer (some ⟨bT, 0, none⟩))
 cf : W.cell? ⟨bf, 0, none⟩ = some (.func (.func 129) #[] #[.pointer (some ⟨bs, 0, none⟩)])
 cs : W.cell? ⟨bs, 0, none⟩ = some (.string s)
theorem BxF.later {W V : World} {bT : Nat} {F : Nat → Prop} {v : Value} {L : List Tp} {n : Int} {bt bf bs : Nat} {s : ByteArray} (h : BxF W bT F v L n bt bf bs s) (hb : Below W.heap.size W V) : BxF V bT F v L n bt bf bs s :=
 ⟨h.tc.later hb, by rw [hb.cell (World.block_lt_of_cell? W _ h.ct)]; exact h.ct, by rw [hb.cell (World.block_lt_of_cell? W _ h.cf)]; exact h.cf, by rw [hb.cell (World.block_lt_of_cell? W _ h.cs)]; exact h.cs⟩
set_option maxRecDepth 100000 in
set_option maxHeartbeats 1000000 in
theorem fst1F_any {w : World} {bT : Nat} {F : Nat → Prop} {v : Value} {L : List Tp} {n : Int} {bt bf bs : Nat} {s : ByteArray} (h : BxF w bT F v L n bt bf bs s) (i : Nat) (q : Tp) (hq : L[i]? = some q) (hL : L.length ≤ 1048577) :
 Calls Tryz.prog 131 #[.int .i64 (i : Int), .pointer (some ⟨bf, 0, none⟩), .pointer (some ⟨bt, 0, none⟩)] w fun e w' => e = .returned (.bool (!nlt q.x.e.nm s)) ∧ Below w.heap.size w w' := by
 obtain ⟨p, c, rfl, hlc, hcm, hg, _⟩ := h.tc.row.open
 have hil : i < L.length := (List.getElem?_eq_some_iff.1 hq).1
 obtain ⟨b, off, q2, rfl, hq2, hqm, cq⟩ := hg.tp i hil
 rw [hq] at hq2
 obtain rfl := Option.some.inj hq2
 have HE := Lib.hid (h.tc.en q hqm)
 have c0 := h.tc.hd.cells.1
 have cf := h.cf
 have ct := h.ct
 have cn := (HE.out.tn.cells HE.out.dk.1).1
 obtain ⟨m, hm⟩ : ∃ m, L.length = m := ⟨_, rfl⟩
 rw [hm] at c0
 obtain ⟨bq, hbq⟩ : ∃ x, q.b = x := ⟨_, rfl⟩
 rw [hbq] at cq cn
 have HC := Lib.hid fun n => cloF_any q.x.e.nm s bs (w.drewN n) (by simpa using h.cs)
 obtain ⟨nm, hnm⟩ : ∃ x, q.x.e.nm = x := ⟨_, rfl⟩
 rw [hnm] at cn HC ⊢
 have hki : (i : Int) < (m : Int) := by omega
 have hk0 : (0 : Int) ≤ (i : Int) := by omega
 clear h hlc hg hq hqm hbq hnm hm hL HE
 obtain ⟨R, hR⟩ : ∃ x, (!nlt nm s) = x := ⟨_, rfl⟩
 rw [hR] at HC ⊢
 clear hR
 go_enter Tryz.func131, Tryz.ntmps131
 go_upto_region 1 with fail
 go_quiet ((go_at_call 129; exact Calls.quiet_of_same (HC.out _)))
 go_wp2
 go_ret
 exact ⟨rfl, below_drewN (Below.refl _ _) _⟩
/-- what the search says: the first name that fits -/
def SrchF (w : World) (L : List Pt) (s : ByteArray) (e : Ending) (w' : World) : Prop := ∃ i : Nat, e = .returned (.int .i64 (i : Int)) ∧ i ≤ L.length ∧ (∀ (t : Nat) (x : Pt), t < i → L[t]? = some x → (!nlt x.nm s) = false) ∧ (∀ (t : Nat) (x : Pt), i ≤ t → L[t]? = some x → (!nlt x.nm s) = true) ∧ Below w.heap.size w w'
set_option maxRecDepth 100000 in
set_option maxHeartbeats 2000000 in
theorem srchF_any {w : World} {bT : Nat} {F : Nat → Prop} {v : Value} {L : List Tp} {z : Int} {bt bf bs : Nat} {s : ByteArray} (h : BxF w bT F v L z bt bf bs s) (hr : rowT (ptP L)) (hL : L.length ≤ 1048577) :
 Calls Tryz.prog 130 #[.int .i64 (L.length : Int), .func (.func 131) #[] #[.pointer (some ⟨bf, 0, none⟩), .pointer (some ⟨bt, 0, none⟩)]] w fun e w' => SrchF w (ptP L) s e w' := by
 have H := Lib.hid h
 have HLP := Lib.hid (ptP_length L)
 have HLL := Lib.hid hL
 have HR : Hid (∀ (i j : Nat) (x y : Pt), i < j → (ptP L)[i]? = some x → (ptP L)[j]? = some y → (!nlt x.nm s) = true → (!nlt y.nm s) = true) := Lib.hid fun i j x y hij hx hy hp => by
  obtain ⟨hi2, hx2⟩ := List.getElem?_eq_some_iff.1 hx
  obtain ⟨hj2, hy2⟩ := List.getElem?_eq_some_iff.1 hy
  have h1 := List.pairwise_iff_getElem.1 hr i j hi2 hj2 hij
  rw [hx2, hy2] at h1
  exact monoF h1 hp
 obtain ⟨n, hn⟩ : ∃ n, L.length = n := ⟨_, rfl⟩
 have HN := Lib.hid hn
 have hnl : n ≤ 1048577 := by rw [← hn]; exact hL
 rw [hn] at HLP ⊢
 clear h hr hL hn
 go_enter Tryz.func130, Tryz.ntmps130
 go_wp2
 go_loopw [5, 6] (fun i j wr => ∃ lo hi : Nat, lo ≤ hi ∧ hi ≤ n ∧ i = .int .i64 (lo : Int) ∧ j = .int .i64 (hi : Int) ∧ Hid ((∀ (t : Nat) (x : Pt), t < lo → (ptP L)[t]? = some x → (!nlt x.nm s) = false) ∧ (∀ (t : Nat) (x : Pt), hi ≤ t → (ptP L)[t]? = some x → (!nlt x.nm s) = true)) ∧ Hid (Below w.heap.size w wr)) (fun i j _ => (intOf j).toNat - (intOf i).toNat)
 case atStart => exact ⟨0, n, by omega, by omega, rfl, rfl, Lib.hid ⟨fun t x ht => absurd ht (Nat.not_lt_zero _), fun t x h1 h2 => by have h3 := (List.getElem?_eq_some_iff.1 h2).1; have := HLP.out; omega⟩, Lib.hid (Below.refl _ _)⟩
 case round =>
  obtain ⟨lo, hi, hlh, hin, rfl, rfl, HI, HB⟩ := hrel
  by_cases hlt : lo < hi
  ·obtain ⟨m, hme⟩ : ∃ m, m = (lo + hi) / 2 := ⟨_, rfl⟩
   have hmn : m < n := by omega
   have hm1 : lo ≤ m := by omega
   have hm2 : m < hi := by omega
   have hme2 : ((lo : Int) + (hi : Int)) / 2 = (m : Int) := by omega
   clear hme
   have hq : L[m]? = some (L[m]'(by rw [HN.out]; exact hmn)) := List.getElem?_eq_getElem _
   obtain ⟨q, hqq⟩ : ∃ q, L[m]'(by rw [HN.out]; exact hmn) = q := ⟨_, rfl⟩
   rw [hqq] at hq
   have hx := ptP_get hq
   have HC := Lib.hid (fst1F_any (H.out.later HB.out) m q hq HLL.out)
   have HUP : Hid ((!nlt q.x.e.nm s) = false → ∀ (t : Nat) (x : Pt), t < m + 1 → (ptP L)[t]? = some x → (!nlt x.nm s) = false) := Lib.hid fun h t x ht hx2 => by
    by_cases e : t = m
    ·subst e
     rw [hx] at hx2
     obtain rfl := Option.some.inj hx2
     exact h
    ·cases h2 : (!nlt x.nm s)
     ·rfl
     ·rw [HR.out t m x _ (by omega) hx2 hx h2] at h
      cases h
   have HDN : Hid ((!nlt q.x.e.nm s) = true → ∀ (t : Nat) (x : Pt), m ≤ t → (ptP L)[t]? = some x → (!nlt x.nm s) = true) := Lib.hid fun h t x ht hx2 => by
    by_cases e : t = m
    ·subst e
     rw [hx] at hx2
     obtain rfl := Option.some.inj hx2
     exact h
    ·exact HR.out m t _ x (by omega) hx hx2 h
   generalize (!nlt q.x.e.nm s) = c at HC HUP HDN
   clear hq hqq hx
   have HM1 := Lib.hid hme2
   cases c with
   | false =>
     have HI2 : Hid ((∀ (t : Nat) (x : Pt), t < m + 1 → (ptP L)[t]? = some x → (!nlt x.nm s) = false) ∧ (∀ (t : Nat) (x : Pt), hi ≤ t → (ptP L)[t]? = some x → (!nlt x.nm s) = true)) := Lib.hid ⟨HUP.out rfl, HI.out.2⟩
     clear HUP HDN HI
     go_wp2_with (go_at_call 131; refine HC.out.mono ?_; rintro e w2 ⟨rfl, hb2⟩; have HB2 := Lib.hid (below_step HB.out hb2); clear hb2)
     refine ⟨?_, by simp [intOf]; omega⟩
     first
      | exact ⟨m + 1, hi, by omega, hin, by go_num, rfl, HI2, HB2⟩
      | ((repeat apply Exists.intro); refine ⟨?_, rfl⟩; exact ⟨m + 1, hi, by omega, hin, by go_num, rfl, HI2, HB2⟩)
   | true =>
     have HI2 : Hid ((∀ (t : Nat) (x : Pt), t < lo → (ptP L)[t]? = some x → (!nlt x.nm s) = false) ∧ (∀ (t : Nat) (x : Pt), m ≤ t → (ptP L)[t]? = some x → (!nlt x.nm s) = true)) := Lib.hid ⟨HI.out.1, HDN.out rfl⟩
     clear HUP HDN HI
     go_wp2_with (go_at_call 131; refine HC.out.mono ?_; rintro e w2 ⟨rfl, hb2⟩; have HB2 := Lib.hid (below_step HB.out hb2); clear hb2)
     refine ⟨?_, by simp [intOf]; omega⟩
     first
      | exact ⟨lo, m, by omega, by omega, rfl, by go_num, HI2, HB2⟩
      | ((repeat apply Exists.intro); refine ⟨?_, rfl⟩; exact ⟨lo, m, by omega, by omega, rfl, by go_num, HI2, HB2⟩)
  ·obtain rfl : lo = hi := by omega
   go_wp2
   go_ret
   exact ⟨lo, rfl, by rw [HLP.out]; exact hin, HI.out.1, HI.out.2, HB.out⟩
set_option maxRecDepth 100000 in
set_option maxHeartbeats 1000000 in
theorem firstF_any {w : World} {bT : Nat} {F : Nat → Prop} {v : Value} {L : List Tp} {z : Int} (s : ByteArray) (bs : Nat) (h : Tc w bT F v L z) (cs : w.cell? ⟨bs, 0, none⟩ = some (.string s)) (hr : rowT (ptP L)) (hL : L.length ≤ 1048577) :
 Calls Tryz.prog 103 #[.pointer (some ⟨bT, 0, none⟩), .func (.func 129) #[] #[.pointer (some ⟨bs, 0, none⟩)]] w fun e w' => SrchF w (ptP L) s e w' := by
 obtain ⟨w1, hw1⟩ : ∃ W, w.alloc (.cells #[.pointer (some ⟨bT, 0, none⟩)] 91) = W := ⟨_, rfl⟩
 obtain ⟨g1, hg1⟩ : ∃ g, w1.heap.size = g := ⟨_, rfl⟩
 obtain ⟨w2, hw2⟩ : ∃ W, w1.alloc (.cells #[.func (.func 129) #[] #[.pointer (some ⟨bs, 0, none⟩)]] 154) = W := ⟨_, rfl⟩
 have hb1 : Below w.heap.size w w1 := by rw [← hw1]; exact (Below.refl _ _).alloc (Nat.le_refl _) _
 have hb2 : Below w1.heap.size w1 w2 := by rw [← hw2]; exact (Below.refl _ _).alloc (Nat.le_refl _) _
 have hb := below_step hb1 hb2
 have HX : Hid (BxF w2 bT F v L z w.heap.size g1 bs s) := Lib.hid ⟨h.later hb, by
  rw [hb2.cell (by rw [← hw1, World.size_alloc]; exact Nat.lt_succ_self _), ← hw1]
  exact cell_of_row _ _ 0 _ _ _ (heap_alloc_new _ _), by
  rw [← hw2, ← hg1]
  exact cell_of_row _ _ 0 _ _ _ (heap_alloc_new _ _), by
  rw [hb.cell (World.block_lt_of_cell? w _ cs)]; exact cs⟩
 have HB := Lib.hid hb
 have HS := Lib.hid (srchF_any HX.out hr hL)
 have c0 := HX.out.tc.hd.cells.1
 have ct := HX.out.ct
 obtain ⟨p, c, rfl, _⟩ := h.row.open
 obtain ⟨n, hn⟩ : ∃ n, L.length = n := ⟨_, rfl⟩
 rw [hn] at HS c0
 clear h cs hr hL hb1 hb2 hb hn
 go_enter Tryz.func103, Tryz.ntmps103
 go_wp2_with (go_at_call 130; refine HS.out.mono ?_; rintro e w3 ⟨i, rfl, h1, h2, h3, hb3⟩; have H1 := Lib.hid h1; have H2 := Lib.hid h2; have H3 := Lib.hid h3; have HB3 := Lib.hid hb3; clear h1 h2 h3 hb3)
 go_ret
 exact ⟨i, rfl, H1.out, H2.out, H3.out, below_step HB.out HB3.out⟩
theorem binOp_gtr_s (t : TypeId) (a b : ByteArray) : binOp .gtr t (.string a) (.string b) = pure (.bool !(Op.bytesLess a.toList b.toList || a.toList == b.toList)) := by simp [binOp, Op.stringOp]
attribute [local go_sem] binOp_gtr_s
/-- a table, and the boxes of what first's closure has caught -/
structure BxL (W : World) (bT : Nat) (F : Nat → Prop) (v : Value) (L : List Tp) (n : Int) (bt bf bs : Nat) (s : ByteArray) : Prop where
 tc : Tc W bT F v L n
 ct : W.cell? ⟨bt, 0, none⟩ = some (.pointer (some ⟨bT, 0, none⟩))
 cf : W.cell? ⟨bf, 0, none⟩ = some (.func (.func 104) #[] #[.pointer (some ⟨bs, 0, none⟩)])
 cs : W.cell? ⟨bs, 0, none⟩ = some (.string s)
theorem BxL.later {W V : World} {bT : Nat} {F : Nat → Prop} {v : Value} {L : List Tp} {n : Int} {bt bf bs : Nat} {s : ByteArray} (h : BxL W bT F v L n bt bf bs s) (hb : Below W.heap.size W V) : BxL V bT F v L n bt bf bs s :=
 ⟨h.tc.later hb, by rw [hb.cell (World.block_lt_of_cell? W _ h.ct)]; exact h.ct, by rw [hb.cell (World.block_lt_of_cell? W _ h.cf)]; exact h.cf, by rw [hb.cell (World.block_lt_of_cell? W _ h.cs)]; exact h.cs⟩
end Go.Proofs.YtpfbfhigelbfcaaGreat

