/- Layer 11, the program: Ids -/
import Derived.Test.YtncbgddgkpaoeaaGreatDd22
import Derived.Test.YtncbgddgkpaoeaaGreatDd23
set_option linter.unusedSimpArgs false
set_option linter.unusedVariables false
namespace Go.Proofs.YtncbgddgkpaoeaaGreat
set_option linter.unusedVariables false
open Go.RowKit Go.Lib Go.Maps

/-- the numbers that were met of a map of names -/
def CollI (f : ByteArray → Option Int) (left : Lit → Bool) (o : List Int) : Prop := ∀ i, i ∈ o ↔ ∃ s, f s = some i ∧ left (keyL s) = false
theorem CollI.start {D : DataW Unit} {f : ByteArray → Option Int} (hd : Df D f) (h0 : okF f) : CollI f (has D) [] := by
  refine fun i => ⟨fun h => (by cases h), fun ⟨s, h1, h2⟩ => ?_⟩
  have h3 := (h0 s i h1).1
  rw [(hd s (by unfold maxLen; omega)).1, h1] at h2
  cases h2
theorem CollI.step {f : ByteArray → Option Int} {left : Lit → Bool} {o : List Int} (h : CollI f left o) {s : ByteArray} {c : Int} (hf : f s = some c) (hs : s.size ≤ 1048576) (hl : left (keyL s) = true) : CollI f (fun z => left z && !z.sameKey (keyL s)) (o ++ [c]) := by
  have hself : (keyL s).sameKey (keyL s) = true := WideAt.sameKey_self (keyL_is hs)
  intro i
  rw [List.mem_append, List.mem_singleton, h i]
  constructor
  · rintro (⟨t, h1, h2⟩ | rfl)
    · refine ⟨t, h1, ?_⟩
      have e : t ≠ s := fun e => by subst e; rw [h2] at hl; cases hl
      simp only [h2, Bool.false_and]
    · exact ⟨s, hf, by simp only [hself, Bool.not_true, Bool.and_false]⟩
  · rintro ⟨t, h1, h2⟩
    by_cases e : t = s
    · subst e
      rw [hf] at h1
      exact Or.inr (Option.some.inj h1).symm
    · have h3 : (keyL t).sameKey (keyL s) = false := sameKey_ne (keyL_ne e)
      simp only [h3, Bool.not_false, Bool.and_true] at h2
      exact Or.inl ⟨t, h1, h2⟩
theorem take_ids {M : List Cg} {j : Nat} (hj : j < M.length) (i : Int) : (∃ c ∈ M.take (j + 1), c.k = 1 ∧ c.id = i) ↔ (∃ c ∈ M.take j, c.k = 1 ∧ c.id = i) ∨ ((M.getD j cg0).k = 1 ∧ (M.getD j cg0).id = i) := by
  rw [List.take_succ_eq_append_getElem hj, List.getD_eq_getElem?_getD, List.getElem?_eq_getElem hj]
  constructor
  · rintro ⟨c, hc, h⟩
    rcases List.mem_append.1 hc with hc | hc
    · exact Or.inl ⟨c, hc, h⟩
    · rw [List.mem_singleton] at hc; subst hc; exact Or.inr h
  · rintro (⟨c, hc, h⟩ | h)
    · exact ⟨c, List.mem_append_left _ hc, h⟩
    · exact ⟨_, List.mem_append_right _ (List.mem_singleton.2 rfl), h⟩

set_option maxRecDepth 100000 in
set_option maxHeartbeats 4000000 in
theorem fids_any (x : Fo) (w : World) (h : Fo.fit w x) (ho : x.fd.ok) :
    Calls Tryz.prog 45 #[x.v] w fun e w' => ∃ p l c, e = .returned (.slice p l c) ∧ Gw encI w' w.heap.size (.slice p l c) (idsP x.fd) ∧ Below w.heap.size w w' := by
  obtain ⟨hnm, hll, hml⟩ := Fo.len h ho
  have HAFT := Lib.hid fun W hW => after_any x 0 W hW ho (by unfold InI; omega)
  have HIDS := Lib.hid (mem_idsP' x.fd)
  have HIR := Lib.hid (idsN_both x.fd (x.fd.p.length + 1)).1
  have HA0 : Hid (aftF x.fd (0 : Int).toNat = findP x.fd.l) := Lib.hid rfl
  obtain ⟨p, l, c, q, m, d, L, M⟩ := x
  dsimp only at hnm hll hml
  have HFM : Hid ((Fo.fd ⟨p, l, c, q, m, d, L, M⟩).p = M) := Lib.hid rfl
  generalize Fo.fd ⟨p, l, c, q, m, d, L, M⟩ = F at *
  have HML := Lib.hid hml
  have HNM := Lib.hid hnm
  unfold Fo.v at HAFT ⊢
  dsimp only at HAFT ⊢
  rw [HA0.out] at HAFT
  obtain ⟨wA, hA⟩ : ∃ A, w.alloc (.cells #[.slice p l c, .slice q m d] 64) = A := ⟨_, rfl⟩
  obtain ⟨G0, hG0⟩ : ∃ G, w.heap.size = G := ⟨_, rfl⟩
  have HBA : Hid (Below w.heap.size w wA) := Lib.hid (by rw [← hA]; exact below_allocF (Below.refl _ _) _)
  have HI : Hid (Fw wA G0 ⟨p, l, c, q, m, d, L, M⟩) := Lib.hid (by rw [← hA, ← hG0]; exact heap_alloc_new _ _)
  have HF := Lib.hid (h.later HBA.out)
  obtain ⟨i0, i1⟩ := HI.out.cells
  have hm : m ≤ 1048576 := by omega
  clear h ho hnm hll hml
  go_enter Tryz.func45, Tryz.ntmps45
  go_wp2_with (first
    | (go_at_call 80; refine (HAFT.out _ HF.out).mono ?_; rintro e w2 ⟨b, rfl, hb, ⟨h0, D, hown, hd⟩, hb2⟩
       have HSZ := Lib.hid hown.size_le
       have HOWN := Lib.hid hown
       have HD := Lib.hid hd
       have H0 := Lib.hid h0
       have HBL := Lib.hid hown.lt
       have HX2 := Lib.hid hb2
       have HB2 := Lib.hid (below_step HBA.out hb2); clear hb hown hd h0 hb2)
    | (at_range; refine wpList_range_own _ rfl _ TM rfl TK TE lawK undM _ b 1048576 D rfl HOWN.out ?_; intro w0 hrg0 hg0 hs0; have HRG0 := Lib.hid hrg0; have HG0 := Lib.hid hg0; clear hrg0 hg0 hs0))
  go_frame
  obtain ⟨R, hR⟩ : ∃ R, w2.heap.size = R := ⟨_, rfl⟩
  rw [hR] at HRG0
  have HWR : Hid (w.heap.size ≤ R) := Lib.hid (by rw [← hR]; exact HB2.out.size)
  have HBR : Hid (b < R) := Lib.hid (by rw [← hR]; exact HBL.out)
  have HR2 : Hid (w2.heap.size = R) := Lib.hid hR
  simp only [hR]
  clear hA hG0 i0 i1 hR
  go_loopw [3] (fun v wr => ∃ (left : Lit → Bool) (cnt : Nat) (o : List Int), wr.ranges Tryz.prog TK (plainElem Tryz.prog TE) b R 1048576 D left cnt ∧ o.length + cnt ≤ 1048576 ∧ Hid (Gw encI wr R v o) ∧ Hid (CollI (findP F.l) left o) ∧ Hid (Below R w2 wr))
    (fun _ wr => wr.rangeLeft b R)
  case atStart =>
    exact ⟨_, _, [], HRG0.out, by have := HSZ.out; simp; omega, Lib.hid (Gw.nil _ _ _), Lib.hid (CollI.start HD.out H0.out), Lib.hid ((Below.refl _ _).grown HG0.out (by rw [HR2.out]; exact Nat.le_refl _) (fun j hj => by cases hj))⟩
  case round =>
    obtain ⟨left, cnt, o, hrg, hcs, HO, HC, HB⟩ := hrel
    have HRG := Lib.hid hrg
    have HCS := Lib.hid hcs
    have HRW : Hid (R ≤ wr.heap.size) := Lib.hid (Nat.le_of_lt hrg.lt)
    clear hrg hcs HG0 HRG0
    go_wp2_with (at_next; refine wpList_next_ranges _ rfl _ rfl TK lawK (plainElem Tryz.prog TE) Value.string (Value.int .i64) (fun key kl hk => by obtain ⟨x, hx, _⟩ := keyOf_str Tryz.underlying9 hk; exact ⟨⟨x.toArray⟩, hx⟩) (fun v y hv => by obtain ⟨c, rfl, _⟩ := plainElem_int_inv undE hv; exact ⟨c, rfl⟩) b R 1048576 D left cnt rfl HRG.out ?_ ?_)
    · intro hc0 hl0
      have HL0 := Lib.hid hl0
      have HBW : Hid (Below w2.heap.size w2 wr) := Lib.hid (by rw [HR2.out]; exact HB.out)
      obtain ⟨i0, i1⟩ := ((HI.out.later HX2.out).later HBW.out).cells
      have HFW := Lib.hid ((HF.out.later HX2.out).later HBW.out)
      have HM0 : Hid (∀ i, i ∈ o ↔ (∃ s, findP F.l s = some i) ∨ ∃ c ∈ M.take 0, c.k = 1 ∧ c.id = i) := Lib.hid fun i => by
        rw [HC.out i]
        constructor
        · rintro ⟨s, h1, _⟩; exact Or.inl ⟨s, h1⟩
        · rintro (⟨s, h1⟩ | ⟨c, hc, _⟩)
          · exact ⟨s, h1, HL0.out _⟩
          · simp at hc
      have HBB := Lib.hid (below_step HB2.out HBW.out)
      have HOL : Hid (o.length ≤ 1048576 + 0) := Lib.hid (by have := HCS.out; omega)
      clear hc0 hl0
      go_wp2
      clear i0 i1
      go_loopw [3, 22] (fun v i wk => ∃ (j : Nat) (o2 : List Int), j ≤ m ∧ i = .int .i64 (j : Int) ∧ Hid (o2.length ≤ 1048576 + j) ∧ Hid (Gw encI wk R v o2) ∧ Hid (∀ i, i ∈ o2 ↔ (∃ s, findP F.l s = some i) ∨ ∃ c ∈ M.take j, c.k = 1 ∧ c.id = i) ∧ Hid (Below R wr wk)) (fun _ i _ => m - (intOf i).toNat)
      case atStart => exact ⟨0, o, by omega, rfl, HOL, HO, HM0, Lib.hid (Below.refl _ _)⟩
      case round =>
        clear HM0 HOL HO HC
        obtain ⟨j, o2, hj, rfl, HOL, HO, HC, HBK⟩ := hrel
        have HBT : Hid (Below w2.heap.size w2 wr) := Lib.hid (by rw [HR2.out]; exact HB.out.trans HBK.out)
        have HRK : Hid (R ≤ wr.heap.size) := Lib.hid (by rw [← HR2.out]; exact HBT.out.size)
        by_cases hlt : j < m
        · obtain ⟨b', off, rfl, c0, c1, c2, c3⟩ := ((HF.out.later HX2.out).later HBT.out).2.2.2.1.cg j hlt
          have HS := Lib.hid (fun i => take_ids (M := M) (j := j) (by rw [HML.out]; exact hlt) i)
          have hkn : (j : Int) < (m : Int) := by omega
          have hk0 : (0 : Int) ≤ (j : Int) := by omega
          generalize M.getD j cg0 = y at *
          obtain ⟨ck, ca, cb, ci⟩ := y
          dsimp only at c0 c1 c2 c3 HS
          obtain ⟨wB, hwB⟩ : ∃ W, wr.alloc (.cells #[.int .i64 ck, .string ca, .string cb, .int .i64 ci] 106) = W := ⟨_, rfl⟩
          obtain ⟨G, hG⟩ : ∃ G, wr.heap.size = G := ⟨_, rfl⟩
          have HC2 : Hid (Cgw wB G ⟨ck, ca, cb, ci⟩) := Lib.hid (by rw [← hwB, ← hG]; exact heap_alloc_new _ _)
          have HO2 : Hid (Gw encI wB R _ o2) := Lib.hid (by rw [← hwB]; exact HO.out.alloc _)
          have HK2 : Hid (Below R _ wB) := Lib.hid (by rw [← hwB]; exact HBK.out.alloc HRK.out _)
          have HRB : Hid (R ≤ wB.heap.size) := Lib.hid (by rw [← hwB]; simp; have := HRK.out; omega)
          obtain ⟨g0, g1, g2, g3⟩ := HC2.out.cells
          by_cases h1 : ck = 1
          · subst h1
            obtain ⟨wC, hwC⟩ : ∃ W, wB.alloc (.cells #[.int .i64 ci] 3) = W := ⟨_, rfl⟩
            obtain ⟨G1, hG1⟩ : ∃ G, wB.heap.size = G := ⟨_, rfl⟩
            have HO3 : Hid (Gw encI wC R _ o2) := Lib.hid (by rw [← hwC]; exact HO2.out.alloc _)
            have HN3 : Hid (Gs encI wC (some ⟨G1, 0, none⟩) 1 [ci]) := Lib.hid (by rw [← hwC, ← hG1]; exact Gs.one encI _ ci _ rfl _ _)
            have HK3 : Hid (Below R _ wC) := Lib.hid (by rw [← hwC]; exact HK2.out.alloc HRB.out _)
            have HRC : Hid (R ≤ wC.heap.size) := Lib.hid (by rw [← hwC]; simp; have := HRB.out; omega)
            have HZ : Hid (o2.length + 1 ≤ 2097152) := Lib.hid (by have := HOL.out; omega)
            go_wp2_with (refine wpList_append_gen encI rfl (.tmp 29) (.tmp 32) 98 rfl Tryz.underlying98 (.int .i64 0) 8 infoI rfl (by decide) R _ _ rfl HO3.out _ 1 1 [ci] rfl HN3.out (fun h => by cases h) HZ.out HRC.out ?_; intro v4 w4 ho4 hg4; have HO4 := Lib.hid ho4; have HK4 := Lib.hid (below_new_gw HK3.out HO3.out hg4 HRC.out); clear ho4 hg4)
            have HL4 : Hid ((o2 ++ [ci]).length ≤ 1048576 + (j + 1)) := Lib.hid (by have := HOL.out; simp; omega)
            have HC4 : Hid (∀ i, i ∈ o2 ++ [ci] ↔ (∃ s, findP F.l s = some i) ∨ ∃ c ∈ M.take (j + 1), c.k = 1 ∧ c.id = i) := Lib.hid fun i => by
              rw [List.mem_append, List.mem_singleton, HC.out i, HS.out i, or_assoc]
              constructor
              · rintro (h | h | rfl)
                · exact Or.inl h
                · exact Or.inr (Or.inl h)
                · exact Or.inr (Or.inr ⟨rfl, rfl⟩)
              · rintro (h | h | ⟨_, rfl⟩)
                · exact Or.inl h
                · exact Or.inr (Or.inl h)
                · exact Or.inr (Or.inr rfl)
            clear hwB hG hwC hG1 g0 g1 g2 g3 c0 c1 c2 c3
            refine ⟨?_, by simp [intOf] <;> omega⟩
            first
              | exact ⟨j + 1, _, by omega, by go_num, HL4, HO4, HC4, HK4⟩
              | ((repeat apply Exists.intro); refine ⟨?_, rfl⟩; exact ⟨j + 1, _, by omega, by go_num, HL4, HO4, HC4, HK4⟩)
          · have k1 : (ck == 1) = false := by simpa using h1
            have HL4 : Hid (o2.length ≤ 1048576 + (j + 1)) := Lib.hid (by have := HOL.out; omega)
            have HC4 : Hid (∀ i, i ∈ o2 ↔ (∃ s, findP F.l s = some i) ∨ ∃ c ∈ M.take (j + 1), c.k = 1 ∧ c.id = i) := Lib.hid fun i => by
              rw [HC.out i, HS.out i]
              constructor
              · rintro (h | h)
                · exact Or.inl h
                · exact Or.inr (Or.inl h)
              · rintro (h | h | ⟨h, _⟩)
                · exact Or.inl h
                · exact Or.inr h
                · exact absurd h h1
            go_wp2
            clear hwB hG g0 g1 g2 g3 c0 c1 c2 c3
            refine ⟨?_, by simp [intOf] <;> omega⟩
            first
              | exact ⟨j + 1, _, by omega, by go_num, HL4, HO2, HC4, HK2⟩
              | ((repeat apply Exists.intro); refine ⟨?_, rfl⟩; exact ⟨j + 1, _, by omega, by go_num, HL4, HO2, HC4, HK2⟩)
        · obtain rfl : j = m := by omega
          have HME : Hid (∀ i, i ∈ o2 ↔ i ∈ idsP F) := Lib.hid fun i => by
            rw [HC.out i, HIDS.out i, HFM.out, List.take_of_length_le (by rw [HML.out]; exact Nat.le_refl _)]
          obtain ⟨q1, cp, hv, _, _, _, _⟩ := HO.out.open
          subst hv
          have HON : Hid (o2.length ≤ 4194304) := Lib.hid (by have := HOL.out; omega)
          go_wp2_with (first
            | (go_at_call 81; refine (sortI_any R o2.length cp q1 o2 _ HO.out HRK.out HON.out).mono ?_; rintro e w3 ⟨rfl, L3, hg3, hs3, hm3, hb3⟩; have HG3 := Lib.hid hg3; have HS3 := Lib.hid hs3; have HM3 := Lib.hid hm3; have HB3 := Lib.hid (HBT.out.trans (by rw [HR2.out]; exact hb3)); have HR3 : Hid (R ≤ w3.heap.size) := Lib.hid (Nat.le_trans HRK.out hb3.size); clear hg3 hs3 hm3 hb3)
            | (go_at_call 82; refine (compI_any R o2.length cp q1 L3 _ HG3.out HR3.out HON.out HS3.out).mono ?_; rintro e w4 ⟨k4, L4, rfl, hg4, hs4, hm4, hb4⟩; have HG4 := Lib.hid hg4; have HS4 := Lib.hid hs4; have HM4 := Lib.hid hm4; have HB4 := Lib.hid (HB3.out.trans (by rw [HR2.out]; exact hb4)); clear hg4 hs4 hm4 hb4))
          go_ret
          have e : L4 = idsP F := irises_ext HS4.out HIR.out fun i => by rw [HM4.out, HM3.out, HME.out]
          subst e
          exact ⟨q1, k4, cp, rfl, HG4.out.mono HWR.out, below_step HB2.out HB4.out⟩
    · intro x c kl yd yp w1 cnt1 hkey hlk hv hat hrg hlt hg hs hen
      obtain ⟨x', ex, rfl, hlen⟩ := keyOf_str Tryz.underlying9 hkey
      obtain ⟨c', ec, hyy, hwc⟩ := plainElem_int_inv undE hv
      simp only [Value.int.injEq, true_and] at ec
      subst ec
      obtain ⟨rfl, _⟩ := Prod.mk.inj hyy
      have hx : x = ⟨x'.toArray⟩ := by simpa [Go.Proofs.encStr] using ex
      have hkl : keyL x = .string x' := by rw [hx]; rfl
      have hxs : x.size ≤ maxLen := by rw [hx]; exact hlen
      rw [← hkl] at hlk hrg hat
      have hfx := Coll.met HD.out hxs hat
      have hok := H0.out _ _ hfx
      have HC1 := Lib.hid (HC.out.step hfx hok.1 hlk)
      have HRG1 := Lib.hid hrg
      have HO1 := Lib.hid (HO.out.kept hg (fun g h1 h2 => HO.out.notIter HRG.out (by rw [h1]; exact h2.symm)))
      have HB1 : Hid (Below R w2 w1) := Lib.hid (HB.out.grown hg (by rw [← HR2.out]; exact HB.out.size) (fun j hj => by cases hj; exact Nat.le_refl _))
      have HLT := Lib.hid hlt
      have HRW1 : Hid (R ≤ w1.heap.size) := Lib.hid (Nat.le_of_lt hrg.lt)
      obtain ⟨wB, hwB⟩ : ∃ W, w1.alloc (.cells #[.int .i64 c] 3) = W := ⟨_, rfl⟩
      obtain ⟨G, hG⟩ : ∃ G, w1.heap.size = G := ⟨_, rfl⟩
      have HO2 : Hid (Gw encI wB R _ o) := Lib.hid (by rw [← hwB]; exact HO1.out.alloc _)
      have HN2 : Hid (Gs encI wB (some ⟨G, 0, none⟩) 1 [c]) := Lib.hid (by rw [← hwB, ← hG]; exact Gs.one encI _ c _ rfl _ _)
      have HB2' : Hid (Below R w2 wB) := Lib.hid (by rw [← hwB]; exact HB1.out.alloc HRW1.out _)
      have HRWB : Hid (R ≤ wB.heap.size) := Lib.hid (by rw [← hwB]; simp; have := HRW1.out; omega)
      have HRG2 : Hid (wB.ranges Tryz.prog TK (plainElem Tryz.prog TE) b R 1048576 D _ cnt1) := Lib.hid (by rw [← hwB]; exact HRG1.out.alloc _)
      have HZ : Hid (o.length + 1 ≤ 2097152) := Lib.hid (by have := HCS.out; omega)
      clear hkey hlk hv hat hrg hlt hg hs hfx hok hlen hwc hkl hxs hx ex hyy
      go_wp2_with (refine wpList_append_gen encI rfl (.tmp 15) (.tmp 17) 98 rfl Tryz.underlying98 (.int .i64 0) 8 infoI rfl (by decide) R _ _ rfl HO2.out _ 1 1 [c] rfl HN2.out (fun h => by cases h) HZ.out HRWB.out ?_; intro v3 w3 ho3 hg3; have HO3 := Lib.hid ho3; have HG3 := Lib.hid hg3; clear ho3 hg3)
      have HRG3 := Lib.hid (HRG2.out.kept HG3.out (HO2.out.notLow HBR.out) (HO2.out.notIter HRG2.out))
      go_roundw
      case rel =>
        exact ⟨_, cnt1, _, HRG3.out, by have := HCS.out; have := HLT.out; simp; omega, HO3, HC1, Lib.hid (below_new_gw HB2'.out HO2.out HG3.out HRWB.out)⟩
      case measure => rw [HRG3.out.left_eq, HRG.out.left_eq]; exact HLT.out
end Go.Proofs.YtncbgddgkpaoeaaGreat
