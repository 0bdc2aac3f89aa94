/- Layer 11, the program: Do -/
import Derived.Test.YtbjfbecpagdoeaaGreatDt26
import Derived.Deep.RegionHeld3
import Derived.Deep.DeepCutAuto
import Derived.Deep.RegionLaw
namespace Go.Proofs.YtbjfbecpagdoeaaGreat
set_option linter.unusedVariables false
open Go.RowKit Go.Lib Go.Maps

/-- a row that lies below a block -/
def Lo (p : Option Addr) (n K : Nat) : Prop := n = 0 ∨ ∃ b off, p = some ⟨b, off, none⟩ ∧ b < K
theorem Gs.lo {α : Type} {E : Ec α} {w : World} {p : Option Addr} {n : Nat} {L : List α} (h : Gs E w p n L) : Lo p n w.heap.size := by
  by_cases h0 : n = 0
  · exact Or.inl h0
  · rcases h.2 with h1 | ⟨b, off, rfl, _⟩
    · exact absurd h1 h0
    · exact Or.inr ⟨b, off, rfl, h.block_lt (by omega)⟩
theorem Lo.mono {p : Option Addr} {n K K' : Nat} (h : Lo p n K) (hk : K ≤ K') : Lo p n K' := by
  rcases h with h | ⟨b, off, hp, hb⟩
  · exact Or.inl h
  · exact Or.inr ⟨b, off, hp, by omega⟩
theorem Gs.under {α : Type} {E : Ec α} {w w' : World} {p : Option Addr} {n K : Nat} {L : List α} (h : Gs E w p n L) (hl : Lo p n K) (hb : Below K w w') : Gs E w' p n L := by
  obtain ⟨h1, h3⟩ := h
  refine ⟨h1, ?_⟩
  rcases h3 with h3 | ⟨b, off, hp, hc⟩
  · exact Or.inl h3
  · rcases hl with h0 | ⟨b', off', hp', hbk⟩
    · exact Or.inl h0
    · rw [hp] at hp'
      simp only [Option.some.injEq, Addr.mk.injEq, and_true] at hp'
      obtain ⟨rfl, rfl⟩ := hp'
      refine Or.inr ⟨b, off, hp, fun j hj i u hu => ?_⟩
      have e := hb.block b hbk
      rw [World.cell?_of_block (a := ⟨b, off + j * E.k + i, none⟩) e]
      exact hc j hj i u hu
theorem Fw.grown {α : Type} {E : Ec α} {w w' : World} {g B : Nat} {x : Fo} {v : Value} {L : List α} (h : Fw w g x) (ho : Gw E w B v L) (hg : w.grownBy w' v.ownBlock) (hne : E.t ≠ 64) : Fw w' g x := by
  have hlt := h.lt
  unfold Fw at *
  rw [hg.block g hlt ?_]
  · exact h
  · intro e
    rcases ho.2 with ⟨rfl, _⟩ | ⟨g', cap, cur, rfl, _, hb, _⟩
    · simp [Value.ownBlock] at e
    · have : g = g' := by simpa [Value.ownBlock] using e
      subst this
      rw [hb] at h
      simp only [Option.some.injEq, Obj.cells.injEq] at h
      exact hne h.2.1
theorem Gw.storedF {α : Type} {E : Ec α} {w w' : World} {g B : Nat} {x : Fo} {v : Value} {L : List α} (h : Gw E w B v L) (hF : Fw w g x) (hne : E.t ≠ 64) (hk : ∀ k, k ≠ g → w'.heap[k]? = w.heap[k]?) : Gw E w' B v L := by
  obtain ⟨hl, h2⟩ := h
  refine ⟨hl, ?_⟩
  rcases h2 with h2 | ⟨g', cap, cur, hv, hB, hb, r⟩
  · exact Or.inl h2
  · refine Or.inr ⟨g', cap, cur, hv, hB, ?_, r⟩
    rw [hk g' ?_]
    · exact hb
    · rintro rfl
      unfold Fw at hF
      rw [hF] at hb
      simp only [Option.some.injEq, Obj.cells.injEq] at hb
      exact hne hb.2.1.symm
theorem size_set2 (w : World) (g : Nat) (v0 v1 : Value) : w.heap.size ≤ ((w.setCell ⟨g, 0, none⟩ v0).setCell ⟨g, 1, none⟩ v1).heap.size :=
  (((Below.refl 0 w).setCell (p := ⟨g, 0, none⟩) (Nat.zero_le _) v0).setCell (p := ⟨g, 1, none⟩) (Nat.zero_le _) v1).size
theorem tC_ne : encC.t ≠ 64 := by decide
theorem Fw.set1 {w : World} {B : Nat} {p q : Option Addr} {n c m d : Nat} {L : List Nd} {M : List Cg} (h : Fw w B ⟨p, n, c, q, m, d, L, M⟩) (q' : Option Addr) (m' d' : Nat) (M' : List Cg) : Fw (w.setCell ⟨B, 1, none⟩ (.slice q' m' d')) B ⟨p, n, c, q', m', d', L, M'⟩ := by
  unfold Fw at *
  rw [heap_setCell_same _ B 1 _ _ _ h]
  rfl

set_option maxRecDepth 100000 in
set_option maxHeartbeats 4000000 in
theorem fdo_any (x : Fo) (c : Cg) (w : World) (h : Fo.fit w x) (ho : x.fd.ok) (hc : c.ok) :
    Calls Tryz.prog 85 #[x.v, c.v] w fun e w' => ∃ y : Fo, e = .returned (.tuple #[y.v, .int .i64 (errP diskP x.fd c)]) ∧ Fo.fit w' y ∧ y.fd = doP diskP x.fd c ∧ Below w.heap.size w w' := by
  obtain ⟨hnm, hll, hml⟩ := Fo.len h ho
  have HFT := Lib.hid fun W hW => fault_any x c W hW ho hc
  have HDO : Hid (doP diskP x.fd c = if errP diskP x.fd c = 0 then ⟨x.fd.l, x.fd.p ++ [c]⟩ else x.fd) := Lib.hid rfl
  obtain ⟨p, l, cc, q, m, d, L, M⟩ := x
  obtain ⟨ck, ca, cb, ci⟩ := c
  dsimp only at hnm hll hml
  have HFL : Hid ((Fo.fd ⟨p, l, cc, q, m, d, L, M⟩).l = L) := Lib.hid rfl
  have HFM : Hid ((Fo.fd ⟨p, l, cc, q, m, d, L, M⟩).p = M) := Lib.hid rfl
  have HFD : Hid (Fo.fd ⟨p, l, cc, q, m, d, L, M⟩ = ⟨L, M⟩) := Lib.hid rfl
  generalize Fo.fd ⟨p, l, cc, q, m, d, L, M⟩ = F at *
  obtain ⟨er, her⟩ : ∃ e, errP diskP F ⟨ck, ca, cb, ci⟩ = e := ⟨_, rfl⟩
  rw [her] at HFT HDO ⊢
  have HML := Lib.hid hml
  have HNM := Lib.hid hnm
  unfold Fo.v at HFT ⊢
  unfold Cg.v at HFT ⊢
  dsimp only at HFT ⊢
  obtain ⟨wA, hA⟩ : ∃ A, ((w.alloc (.cells #[.slice p l cc, .slice q m d] 64)).alloc (.cells #[.int .i64 ck, .string ca, .string cb, .int .i64 ci] 106)).alloc (.cells #[.slice none 0 0, .slice none 0 0] 64) = A := ⟨_, rfl⟩
  obtain ⟨G0, hG0⟩ : ∃ G, w.heap.size = G := ⟨_, rfl⟩
  obtain ⟨G1, hG1⟩ : ∃ G, G0 + 1 = G := ⟨_, rfl⟩
  obtain ⟨G2, hG2⟩ : ∃ G, G1 + 1 = G := ⟨_, rfl⟩
  have HGG : Hid (w.heap.size ≤ G2) := Lib.hid (by omega)
  have HBA : Hid (Below w.heap.size w wA) := Lib.hid (by rw [← hA]; exact below_allocF (below_allocF (below_allocF (Below.refl _ _) _) _) _)
  have HI : Hid (Fw wA G0 ⟨p, l, cc, q, m, d, L, M⟩) := Lib.hid (by rw [← hA, ← hG0]; exact Fw.later (Fw.later (heap_alloc_new _ _) (below_allocF (Below.refl _ _) _)) (below_allocF (Below.refl _ _) _))
  have HC : Hid (Cgw wA G1 ⟨ck, ca, cb, ci⟩) := Lib.hid (by rw [← hA, ← hG1, ← hG0]; exact Cgw.later (two_newF _ _ _) (below_allocF (Below.refl _ _) _))
  have HZ : Hid (Fw wA G2 fo0) := Lib.hid (by
    rw [← hA, ← hG2, ← hG1, ← hG0]
    have := heap_alloc_new ((w.alloc (.cells #[.slice p l cc, .slice q m d] 64)).alloc (.cells #[.int .i64 ck, .string ca, .string cb, .int .i64 ci] 106)) (.cells #[.slice none 0 0, .slice none 0 0] 64)
    have e : ((w.alloc (.cells #[.slice p l cc, .slice q m d] 64)).alloc (.cells #[.int .i64 ck, .string ca, .string cb, .int .i64 ci] 106)).heap.size = w.heap.size + 1 + 1 := by simp
    rw [e] at this
    exact this)
  have HF := Lib.hid h
  have HD0 : Hid (Below wA.heap.size wA wA.drew) := Lib.hid ((Below.refl _ _).drew)
  have HD1 : Hid (Below wA.heap.size wA (wA.drew.alloc (.cells #[.slice none 0 0, .slice none 0 0] 64))) := Lib.hid (HD0.out.alloc HD0.out.size _)
  have HZa : Hid (Fw (wA.drew.alloc (.cells #[.slice none 0 0, .slice none 0 0] 64)) wA.heap.size fo0) := Lib.hid (heap_alloc_new wA.drew _)
  have HK : Hid (∀ W, Below wA.heap.size wA W → W.cell? ⟨G0, 0, none⟩ = some (.slice p l cc) ∧ W.cell? ⟨G0, 1, none⟩ = some (.slice q m d)) := Lib.hid fun W hW => (HI.out.later hW).cells
  have HFA := Lib.hid fun W (hW : Below wA.heap.size wA W) => HF.out.later (below_step HBA.out hW)
  have HNL : Hid (l ≤ 1048576) := Lib.hid (by omega)
  have HNMm : Hid (m ≤ 1048576) := Lib.hid (by omega)
  have k1 := HK.out _ (Below.refl _ _)
  have k0 := HK.out _ HD0.out
  have k0b := HK.out _ HD1.out
  clear h ho hc hnm hll hml her
  go_enter Tryz.func85, Tryz.ntmps85
  go_wp2_with fail
  clear hA hG0 hG1 hG2
  go_upto_region 1 with fail
  go_cut [6] (fun g wx => ∃ (G K : Nat) (y : Fo), g = .pointer (some ⟨G, 0, none⟩) ∧ y.m = m ∧ Hid (Fw wx G y) ∧ Hid (Fo.fit wx y) ∧ Hid (y.fd = ⟨L, M⟩) ∧ Hid (Gw encC wx K (.slice y.q y.m y.d) y.M) ∧ Hid (Lo y.p y.n K) ∧ Hid (wA.heap.size ≤ K) ∧ Hid (K ≤ wx.heap.size) ∧ Hid (Below wA.heap.size wA wx) ∧ Hid (wA.heap.size ≤ G))
  case first =>
    go_region_held3 (fun W => W.cell? ⟨G0, 0, none⟩ = some (.slice p l cc) ∧ W.cell? ⟨G0, 1, none⟩ = some (.slice q m d)) (first | exact k0 | exact k1 | exact k0b | exact k2 | exact k2b | exact k3 | exact k3b | exact k3c | exact k3d | exact k3e) (first
      | (go_at_call 111; refine (cloneN_any p l cc L _ (by first | exact (HFA.out _ HD0.out).1 | exact (HFA.out _ HD1.out).1) HF.out.2.1 HF.out.2.2.1 HNL.out).mono ?_; rintro e w2 ⟨p2, c2, rfl, hg2, hp2, hl2, hb2⟩; have HG2 := Lib.hid hg2.gs; have HP2 := Lib.hid hp2; have HL2 := Lib.hid hl2; have HB2 : Hid (Below wA.heap.size wA w2) := Lib.hid (by first | exact below_step HD0.out hb2 | exact below_step HD1.out hb2); have k2 := HK.out _ HB2.out; have HB2b := Lib.hid (HB2.out.alloc HB2.out.size (.cells #[.slice none 0 0, .slice none 0 0] 64)); have k2b := HK.out _ HB2b.out; have HZb : Hid (Fw (w2.alloc (.cells #[.slice none 0 0, .slice none 0 0] 64)) w2.heap.size fo0) := Lib.hid (heap_alloc_new _ _); (try have HZ2 := Lib.hid (HZa.out.later hb2)); clear hg2 hp2 hl2 hb2)
      | (go_at_call 112; refine (cloneC_any q m d M _ (by first | exact (HFA.out _ HB2.out).2.2.2.1 | exact (HFA.out _ HB2b.out).2.2.2.1) HF.out.2.2.2.2.1 HF.out.2.2.2.2.2 HNMm.out).mono ?_; rintro e w3 ⟨q3, d3, rfl, hg3, hp3, hl3, hb3⟩; have HG3 := Lib.hid hg3; have HP3 := Lib.hid hp3; have HL3 := Lib.hid hl3; have HB3 : Hid (Below wA.heap.size wA w3) := Lib.hid (by first | exact below_step HB2.out hb3 | exact below_step HB2b.out hb3); have HX3 : Hid (Below w2.heap.size w2 w3) := Lib.hid (by first | exact hb3 | exact below_step ((Below.refl _ _).alloc (Nat.le_refl _) _) hb3); have k3 := HK.out _ HB3.out; have k3b := HK.out _ (HB3.out.alloc HB3.out.size (.cells #[.slice none 0 0, .slice none 0 0] 64)); have k3c := HK.out _ (HB3.out.alloc HB3.out.size (.cells #[.slice p2 l c2, .slice q3 m d3] 64)); have k3d := HK.out _ ((HB3.out.setCell (p := ⟨wA.heap.size, 0, none⟩) (Nat.le_refl _) (.slice p2 l c2)).setCell (p := ⟨wA.heap.size, 1, none⟩) (Nat.le_refl _) (.slice q3 m d3)); have k3e := HK.out _ ((HB3.out.setCell (p := ⟨w2.heap.size, 0, none⟩) HB2.out.size (.slice p2 l c2)).setCell (p := ⟨w2.heap.size, 1, none⟩) HB2.out.size (.slice q3 m d3)); (try (have HZ3 := Lib.hid (HZ2.out.later HX3.out); obtain ⟨z0, z1⟩ := HZ3.out.cells; have f0 := HZ3.out.frozen 0; have f1 := HZ3.out.frozen 1)); (try (have HZ3 := Lib.hid (HZb.out.later hb3); obtain ⟨z0, z1⟩ := HZ3.out.cells; have f0 := HZ3.out.frozen 0; have f1 := HZ3.out.frozen 1)); have HQ3 : Hid (w2.heap.size ≤ w3.heap.size) := Lib.hid HX3.out.size; have HGK : Hid (Gw encC w3 w2.heap.size (.slice q3 m d3) M) := Lib.hid (by first | exact hg3 | exact hg3.mono (by simp)); clear hg3 hp3 hl3 hb3))
    all_goals (go_wp2_with fail)
    all_goals go_meet
    all_goals (first
      | exact ⟨_, w2.heap.size, ⟨p2, l, c2, q3, m, d3, L, M⟩, rfl, rfl, Lib.hid (heap_alloc_new _ _), Lib.hid ⟨(HG2.out.later HX3.out).later ((Below.refl _ _).alloc (Nat.le_refl _) _), HP2.out, HL2.out, HG3.out.gs.later ((Below.refl _ _).alloc (Nat.le_refl _) _), HP3.out, HL3.out⟩, Lib.hid rfl, Lib.hid (HGK.out.alloc _), Lib.hid HG2.out.lo, Lib.hid HB2.out.size, Lib.hid (Nat.le_trans HQ3.out (by simp)), Lib.hid (HB3.out.alloc HB3.out.size _), Lib.hid HB3.out.size⟩
      | exact ⟨_, w2.heap.size, ⟨p2, l, c2, q3, m, d3, L, M⟩, rfl, rfl, Lib.hid (cells2_storedF HZ3.out _ _), Lib.hid ⟨(HG2.out.later HX3.out).stored flatN HZ3.out.sl2 (stored2_keepF _ _ _ _), HP2.out, HL2.out, HG3.out.gs.stored flatC HZ3.out.sl2 (stored2_keepF _ _ _ _), HP3.out, HL3.out⟩, Lib.hid rfl, Lib.hid (HGK.out.storedF HZ3.out tC_ne (stored2_keepF _ _ _ _)), Lib.hid HG2.out.lo, Lib.hid HB2.out.size, Lib.hid (Nat.le_trans HQ3.out (size_set2 _ _ _ _)), Lib.hid ((HB3.out.setCell (p := ⟨w2.heap.size, 0, none⟩) HB2.out.size _).setCell (p := ⟨w2.heap.size, 1, none⟩) HB2.out.size _), Lib.hid HB2.out.size⟩
      | exact ⟨_, w2.heap.size, ⟨p2, l, c2, q3, m, d3, L, M⟩, rfl, rfl, Lib.hid (cells2_storedF HZ3.out _ _), Lib.hid ⟨(HG2.out.later HX3.out).stored flatN HZ3.out.sl2 (stored2_keepF _ _ _ _), HP2.out, HL2.out, HG3.out.gs.stored flatC HZ3.out.sl2 (stored2_keepF _ _ _ _), HP3.out, HL3.out⟩, Lib.hid rfl, Lib.hid (HGK.out.storedF HZ3.out tC_ne (stored2_keepF _ _ _ _)), Lib.hid HG2.out.lo, Lib.hid HB2.out.size, Lib.hid (Nat.le_trans HQ3.out (size_set2 _ _ _ _)), Lib.hid ((HB3.out.setCell (p := ⟨wA.heap.size, 0, none⟩) (Nat.le_refl _) _).setCell (p := ⟨wA.heap.size, 1, none⟩) (Nat.le_refl _) _), Lib.hid (Nat.le_refl _)⟩)
  case rest =>
    obtain ⟨G, K, ⟨yp, yn, yc, yq, ym, yd, yL, yM⟩, rfl, hym, HY, HFY, HYF, HGY, HLO, HAK, HKW, HB4, HAG⟩ := hcut
    dsimp only at hym
    subst hym
    have HG2L := Lib.hid HZ.out.lt
    have HZ4 := Lib.hid (HZ.out.later HB4.out)
    have HYL : Hid (yM.length = ym) := Lib.hid HGY.out.len
    have HFX := Lib.hid (HFA.out _ HB4.out)
    obtain ⟨i0, i1⟩ := (HI.out.later HB4.out).cells
    obtain ⟨g0, g1, g2, g3⟩ := (HC.out.later HB4.out).cells
    clear HK k0 k1 k0b HD0 HD1 HZa HFA
    by_cases he : er = 0
    · have HP : Hid (doP diskP F ⟨ck, ca, cb, ci⟩ = ⟨F.l, F.p ++ [⟨ck, ca, cb, ci⟩]⟩) := Lib.hid (by rw [HDO.out, if_pos he])
      subst he
      have HZL : Hid (yM.length + 1 ≤ 2097152) := Lib.hid (by have := HYL.out; have := HNMm.out; omega)
      go_wp2_with (first
        | (go_at_call 113; refine (HFT.out _ HFX.out).mono ?_; rintro e w5 ⟨rfl, hb5⟩
           have HY5 := Lib.hid (HY.out.later hb5)
           have HZ5 := Lib.hid (HZ4.out.later hb5)
           have HG5 := Lib.hid (HGY.out.later hb5)
           have HN5 := Lib.hid (HFY.out.1.later hb5)
           have HB5 := Lib.hid (HB4.out.trans (hb5.mono HB4.out.size))
           have HK5 := Lib.hid (Nat.le_trans HKW.out hb5.size)
           have kk := ((HC.out.later HB4.out).later hb5).cells
           clear g0 g1 g2 g3
           obtain ⟨g0, g1, g2, g3⟩ := kk
           obtain ⟨j0, j1⟩ := HY5.out.cells
           obtain ⟨wB, hwB⟩ : ∃ W, w5.alloc (.cells #[.int .i64 ck, .string ca, .string cb, .int .i64 ci] 106) = W := ⟨_, rfl⟩
           obtain ⟨GB, hGB⟩ : ∃ G, w5.heap.size = G := ⟨_, rfl⟩
           have HN6 : Hid (Gs encC wB (some ⟨GB, 0, none⟩) 1 [⟨ck, ca, cb, ci⟩]) := Lib.hid (by rw [← hwB, ← hGB]; exact Gs.one encC _ ⟨ck, ca, cb, ci⟩ _ rfl _ _)
           have HL6 : Hid (Below w5.heap.size w5 wB) := Lib.hid (by rw [← hwB]; exact below_allocF (Below.refl _ _) _)
           have HG6 := Lib.hid (HG5.out.later HL6.out)
           have HY6 := Lib.hid (HY5.out.later HL6.out)
           have HZ6 := Lib.hid (HZ5.out.later HL6.out)
           have HM6 := Lib.hid (HN5.out.later HL6.out)
           have HB6 := Lib.hid (HB5.out.trans (HL6.out.mono HB5.out.size))
           have HK6 := Lib.hid (Nat.le_trans HK5.out HL6.out.size)
           clear hb5)
        | (refine wpList_append_gen encC rfl (.tmp 23) (.tmp 25) 62 rfl Tryz.underlying62 czero 48 infoC rfl (by decide) K _ yM rfl HG6.out _ 1 1 [⟨ck, ca, cb, ci⟩] rfl HN6.out (fun h => by cases h) HZL.out HK6.out ?_; intro v7 w7 ho7 hg7
           obtain ⟨q7, d7, hv7, hld7, _, hgs7, hpn7⟩ := ho7.open
           have hlen7 : (yM ++ [(⟨ck, ca, cb, ci⟩ : Cg)]).length = ym + 1 := (List.length_append.trans (by rw [HYL.out, List.length_singleton]))
           rw [hlen7] at hv7 hld7 hgs7
           subst hv7
           have HY7 := Lib.hid (HY6.out.grown HG6.out hg7 tC_ne)
           have HZ7 := Lib.hid (HZ6.out.grown HG6.out hg7 tC_ne)
           have HM7 := Lib.hid (HM6.out.under HLO.out (below_new_gw (Below.refl K _) HG6.out hg7 HK6.out))
           have HG7 := Lib.hid hgs7
           have HP7 := Lib.hid hpn7
           have HD7 := Lib.hid hld7
           have HB7 := Lib.hid (HB6.out.trans ((below_new_gw (Below.refl K _) HG6.out hg7 HK6.out).mono HAK.out))
           obtain ⟨j2, j3⟩ := HY7.out.cells
           have f3 := HY7.out.frozen 1
           have HY8 := Lib.hid (HY7.out.set1 q7 (ym + 1) d7 (yM ++ [⟨ck, ca, cb, ci⟩]))
           have HZ8 : Hid (Fw (w7.setCell ⟨G, 1, none⟩ (.slice q7 (ym + 1) d7)) G2 fo0) := Lib.hid (by
             unfold Fw
             rw [stored1_keepF _ _ _ _ _ (by have := HG2L.out; have := HAG.out; omega)]
             exact HZ7.out)
           obtain ⟨a0, a1⟩ := HY8.out.cells
           obtain ⟨b0, b1⟩ := HZ8.out.cells
           have e0 := HZ8.out.frozen 0
           have e1 := HZ8.out.frozen 1
           clear ho7 hg7 hgs7 hpn7 hld7 hlen7))
      have HF8 : Hid (Fo.fit (w7.setCell ⟨G, 1, none⟩ (.slice q7 (ym + 1) d7)) ⟨yp, yn, yc, q7, ym + 1, d7, yL, yM ++ [⟨ck, ca, cb, ci⟩]⟩) := Lib.hid ⟨HM7.out.stored flatN HY7.out.sl2 (stored1_keepF _ _ _ _), HFY.out.2.1, HFY.out.2.2.1, HG7.out.stored flatC HY7.out.sl2 (stored1_keepF _ _ _ _), HP7.out, HD7.out⟩
      refine bodyPost_ret (Fw.results_tmp (y := ⟨yp, yn, yc, q7, ym + 1, d7, yL, yM ++ [⟨ck, ca, cb, ci⟩]⟩) (cells2_storedF HZ8.out _ _) rfl _ rfl) rfl ?_
      refine ⟨_, rfl, HF8.out.stored HZ8.out.sl2 (stored2_keepF _ _ _ _), ?_, (((below_step HBA.out HB7.out).setCell (p := ⟨G, 1, none⟩) (Nat.le_trans HBA.out.size HAG.out) _).setCell (p := ⟨G2, 0, none⟩) HGG.out _).setCell (p := ⟨G2, 1, none⟩) HGG.out _⟩
      have e := HYF.out
      simp only [Fo.fd, Fd.mk.injEq] at e
      rw [HP.out, HFL.out, HFM.out, ← e.1, ← e.2]
      rfl
    · have HP : Hid (doP diskP F ⟨ck, ca, cb, ci⟩ = F) := Lib.hid (by rw [HDO.out, if_neg he])
      have k : (er == 0) = false := by simpa using he
      clear he
      go_wp2_with (go_at_call 113; refine (HFT.out _ HFX.out).mono ?_; rintro e w5 ⟨rfl, hb5⟩
                   have HY5 := Lib.hid (HY.out.later hb5)
                   have HZ5 := Lib.hid (HZ4.out.later hb5)
                   have HF5 := Lib.hid (HFY.out.later hb5)
                   have HB5 := Lib.hid (HB4.out.trans (hb5.mono HB4.out.size))
                   obtain ⟨j0, j1⟩ := HY5.out.cells
                   obtain ⟨z0, z1⟩ := HZ5.out.cells
                   have f0 := HZ5.out.frozen 0
                   have f1 := HZ5.out.frozen 1
                   clear hb5)
      refine bodyPost_ret (Fw.results_tmp (y := ⟨yp, yn, yc, yq, ym, yd, yL, yM⟩) (cells2_storedF HZ5.out _ _) rfl _ rfl) rfl ?_
      refine ⟨_, rfl, HF5.out.stored HZ5.out.sl2 (stored2_keepF _ _ _ _), by rw [HP.out, HFD.out]; exact HYF.out, ((below_step HBA.out HB5.out).setCell (p := ⟨G2, 0, none⟩) HGG.out _).setCell (p := ⟨G2, 1, none⟩) HGG.out _⟩
end Go.Proofs.YtbjfbecpagdoeaaGreat
