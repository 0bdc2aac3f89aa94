/- Layer 11, the program: Do; Layer 11: the reference's Do -/
import Derived.Test.YtncbgddgkpaoeaaGreatDd26
import Derived.Test.YtncbgddgkpaoeaaGreatDd27
import Derived.Deep.RegionHeld3
import Derived.Deep.DeepCutAuto
import Derived.Deep.RegionLaw
set_option linter.unusedSimpArgs false
set_option linter.unusedVariables false
namespace Go.Proofs.YtncbgddgkpaoeaaGreat
set_option linter.unusedVariables false
open Go.RowKit Go.Lib Go.Maps

/-- a row that lies below a block -/
def Lo (p : Option Addr) (n K : Nat) : Prop := n = 0 ∨ ∃ b off, p = some ⟨b, off, none⟩ ∧ b < K
theorem Gs.lo {α : Type} {E : Ec α} {w : World} {p : Option Addr} {n : Nat} {L : List α} (h : Gs E w p n L) : Lo p n w.heap.size := by
  by_cases h0 : n = 0
  · exact Or.inl h0
  · rcases h.2 with h1 | ⟨b, off, rfl, _⟩
    · exact absurd h1 h0
    · exact Or.inr ⟨b, off, rfl, h.block_lt (by omega)⟩
theorem Lo.mono {p : Option Addr} {n K K' : Nat} (h : Lo p n K) (hk : K ≤ K') : Lo p n K' := by
  rcases h with h | ⟨b, off, hp, hb⟩
  · exact Or.inl h
  · exact Or.inr ⟨b, off, hp, by omega⟩
theorem Gs.under {α : Type} {E : Ec α} {w w' : World} {p : Option Addr} {n K : Nat} {L : List α} (h : Gs E w p n L) (hl : Lo p n K) (hb : Below K w w') : Gs E w' p n L := by
  obtain ⟨h1, h3⟩ := h
  refine ⟨h1, ?_⟩
  rcases h3 with h3 | ⟨b, off, hp, hc⟩
  · exact Or.inl h3
  · rcases hl with h0 | ⟨b', off', hp', hbk⟩
    · exact Or.inl h0
    · rw [hp] at hp'
      simp only [Option.some.injEq, Addr.mk.injEq, and_true] at hp'
      obtain ⟨rfl, rfl⟩ := hp'
      refine Or.inr ⟨b, off, hp, fun j hj i u hu => ?_⟩
      have e := hb.block b hbk
      rw [World.cell?_of_block (a := ⟨b, off + j * E.k + i, none⟩) e]
      exact hc j hj i u hu
theorem Fw.grown {α : Type} {E : Ec α} {w w' : World} {g B : Nat} {x : Fo} {v : Value} {L : List α} (h : Fw w g x) (ho : Gw E w B v L) (hg : w.grownBy w' v.ownBlock) (hne : E.t ≠ 64) : Fw w' g x := by
  have hlt := h.lt
  unfold Fw at *
  rw [hg.block g hlt ?_]
  · exact h
  · intro e
    rcases ho.2 with ⟨rfl, _⟩ | ⟨g', cap, cur, rfl, _, hb, _⟩
    · simp [Value.ownBlock] at e
    · have : g = g' := by simpa [Value.ownBlock] using e
      subst this
      rw [hb] at h
      simp only [Option.some.injEq, Obj.cells.injEq] at h
      exact hne h.2.1
theorem Gw.storedF {α : Type} {E : Ec α} {w w' : World} {g B : Nat} {x : Fo} {v : Value} {L : List α} (h : Gw E w B v L) (hF : Fw w g x) (hne : E.t ≠ 64) (hk : ∀ k, k ≠ g → w'.heap[k]? = w.heap[k]?) : Gw E w' B v L := by
  obtain ⟨hl, h2⟩ := h
  refine ⟨hl, ?_⟩
  rcases h2 with h2 | ⟨g', cap, cur, hv, hB, hb, r⟩
  · exact Or.inl h2
  · refine Or.inr ⟨g', cap, cur, hv, hB, ?_, r⟩
    rw [hk g' ?_]
    · exact hb
    · rintro rfl
      unfold Fw at hF
      rw [hF] at hb
      simp only [Option.some.injEq, Obj.cells.injEq] at hb
      exact hne hb.2.1.symm
theorem size_set2 (w : World) (g : Nat) (v0 v1 : Value) : w.heap.size ≤ ((w.setCell ⟨g, 0, none⟩ v0).setCell ⟨g, 1, none⟩ v1).heap.size :=
  (((Below.refl 0 w).setCell (p := ⟨g, 0, none⟩) (Nat.zero_le _) v0).setCell (p := ⟨g, 1, none⟩) (Nat.zero_le _) v1).size
theorem tC_ne : encC.t ≠ 64 := by decide
theorem Fw.set1 {w : World} {B : Nat} {p q : Option Addr} {n c m d : Nat} {L : List Nd} {M : List Cg} (h : Fw w B ⟨p, n, c, q, m, d, L, M⟩) (q' : Option Addr) (m' d' : Nat) (M' : List Cg) : Fw (w.setCell ⟨B, 1, none⟩ (.slice q' m' d')) B ⟨p, n, c, q', m', d', L, M'⟩ := by
  unfold Fw at *
  rw [heap_setCell_same _ B 1 _ _ _ h]
  rfl

set_option maxRecDepth 100000 in
set_option maxHeartbeats 4000000 in
theorem fdo_any (x : Fo) (c : Cg) (w : World) (h : Fo.fit w x) (ho : x.fd.ok) (hc : c.ok) :
    Calls Tryz.prog 85 #[x.v, c.v] w fun e w' => ∃ y : Fo, e = .returned (.tuple #[y.v, .int .i64 (errP diskP x.fd c)]) ∧ Fo.fit w' y ∧ y.fd = doP diskP x.fd c ∧ Below w.heap.size w w' := by
  obtain ⟨hnm, hll, hml⟩ := Fo.len h ho
  have HFT := Lib.hid fun W hW => fault_any x c W hW ho hc
  have HDO : Hid (doP diskP x.fd c = if errP diskP x.fd c = 0 then ⟨x.fd.l, x.fd.p ++ [c]⟩ else x.fd) := Lib.hid rfl
  obtain ⟨p, l, cc, q, m, d, L, M⟩ := x
  obtain ⟨ck, ca, cb, ci⟩ := c
  dsimp only at hnm hll hml
  have HFL : Hid ((Fo.fd ⟨p, l, cc, q, m, d, L, M⟩).l = L) := Lib.hid rfl
  have HFM : Hid ((Fo.fd ⟨p, l, cc, q, m, d, L, M⟩).p = M) := Lib.hid rfl
  have HFD : Hid (Fo.fd ⟨p, l, cc, q, m, d, L, M⟩ = ⟨L, M⟩) := Lib.hid rfl
  generalize Fo.fd ⟨p, l, cc, q, m, d, L, M⟩ = F at *
  obtain ⟨er, her⟩ : ∃ e, errP diskP F ⟨ck, ca, cb, ci⟩ = e := ⟨_, rfl⟩
  rw [her] at HFT HDO ⊢
  have HML := Lib.hid hml
  have HNM := Lib.hid hnm
  unfold Fo.v at HFT ⊢
  unfold Cg.v at HFT ⊢
  dsimp only at HFT ⊢
  obtain ⟨wA, hA⟩ : ∃ A, ((w.alloc (.cells #[.slice p l cc, .slice q m d] 64)).alloc (.cells #[.int .i64 ck, .string ca, .string cb, .int .i64 ci] 106)).alloc (.cells #[.slice none 0 0, .slice none 0 0] 64) = A := ⟨_, rfl⟩
  obtain ⟨G0, hG0⟩ : ∃ G, w.heap.size = G := ⟨_, rfl⟩
  obtain ⟨G1, hG1⟩ : ∃ G, G0 + 1 = G := ⟨_, rfl⟩
  obtain ⟨G2, hG2⟩ : ∃ G, G1 + 1 = G := ⟨_, rfl⟩
  have HGG : Hid (w.heap.size ≤ G2) := Lib.hid (by omega)
  have HBA : Hid (Below w.heap.size w wA) := Lib.hid (by rw [← hA]; exact below_allocF (below_allocF (below_allocF (Below.refl _ _) _) _) _)
  have HI : Hid (Fw wA G0 ⟨p, l, cc, q, m, d, L, M⟩) := Lib.hid (by rw [← hA, ← hG0]; exact Fw.later (Fw.later (heap_alloc_new _ _) (below_allocF (Below.refl _ _) _)) (below_allocF (Below.refl _ _) _))
  have HC : Hid (Cgw wA G1 ⟨ck, ca, cb, ci⟩) := Lib.hid (by rw [← hA, ← hG1, ← hG0]; exact Cgw.later (two_newF _ _ _) (below_allocF (Below.refl _ _) _))
  have HZ : Hid (Fw wA G2 fo0) := Lib.hid (by
    rw [← hA, ← hG2, ← hG1, ← hG0]
    have := heap_alloc_new ((w.alloc (.cells #[.slice p l cc, .slice q m d] 64)).alloc (.cells #[.int .i64 ck, .string ca, .string cb, .int .i64 ci] 106)) (.cells #[.slice none 0 0, .slice none 0 0] 64)
    have e : ((w.alloc (.cells #[.slice p l cc, .slice q m d] 64)).alloc (.cells #[.int .i64 ck, .string ca, .string cb, .int .i64 ci] 106)).heap.size = w.heap.size + 1 + 1 := by simp
    rw [e] at this
    exact this)
  have HF := Lib.hid h
  have HD0 : Hid (Below wA.heap.size wA wA.drew) := Lib.hid ((Below.refl _ _).drew)
  have HD1 : Hid (Below wA.heap.size wA (wA.drew.alloc (.cells #[.slice none 0 0, .slice none 0 0] 64))) := Lib.hid (HD0.out.alloc HD0.out.size _)
  have HZa : Hid (Fw (wA.drew.alloc (.cells #[.slice none 0 0, .slice none 0 0] 64)) wA.heap.size fo0) := Lib.hid (heap_alloc_new wA.drew _)
  have HK : Hid (∀ W, Below wA.heap.size wA W → W.cell? ⟨G0, 0, none⟩ = some (.slice p l cc) ∧ W.cell? ⟨G0, 1, none⟩ = some (.slice q m d)) := Lib.hid fun W hW => (HI.out.later hW).cells
  have HFA := Lib.hid fun W (hW : Below wA.heap.size wA W) => HF.out.later (below_step HBA.out hW)
  have HNL : Hid (l ≤ 1048576) := Lib.hid (by omega)
  have HNMm : Hid (m ≤ 1048576) := Lib.hid (by omega)
  have k1 := HK.out _ (Below.refl _ _)
  have k0 := HK.out _ HD0.out
  have k0b := HK.out _ HD1.out
  clear h ho hc hnm hll hml her
  go_enter Tryz.func85, Tryz.ntmps85
  go_wp2_with fail
  clear hA hG0 hG1 hG2
  go_upto_region 1 with fail
  go_cut [6] (fun g wx => ∃ (G K : Nat) (y : Fo), g = .pointer (some ⟨G, 0, none⟩) ∧ y.m = m ∧ Hid (Fw wx G y) ∧ Hid (Fo.fit wx y) ∧ Hid (y.fd = ⟨L, M⟩) ∧ Hid (Gw encC wx K (.slice y.q y.m y.d) y.M) ∧ Hid (Lo y.p y.n K) ∧ Hid (wA.heap.size ≤ K) ∧ Hid (K ≤ wx.heap.size) ∧ Hid (Below wA.heap.size wA wx) ∧ Hid (wA.heap.size ≤ G))
  case first =>
    go_region_held3 (fun W => W.cell? ⟨G0, 0, none⟩ = some (.slice p l cc) ∧ W.cell? ⟨G0, 1, none⟩ = some (.slice q m d)) (first | exact k0 | exact k1 | exact k0b | exact k2 | exact k2b | exact k3 | exact k3b | exact k3c | exact k3d | exact k3e) (first
      | (go_at_call 111; refine (cloneN_any p l cc L _ (by first | exact (HFA.out _ HD0.out).1 | exact (HFA.out _ HD1.out).1) HF.out.2.1 HF.out.2.2.1 HNL.out).mono ?_; rintro e w2 ⟨p2, c2, rfl, hg2, hp2, hl2, hb2⟩; have HG2 := Lib.hid hg2.gs; have HP2 := Lib.hid hp2; have HL2 := Lib.hid hl2; have HB2 : Hid (Below wA.heap.size wA w2) := Lib.hid (by first | exact below_step HD0.out hb2 | exact below_step HD1.out hb2); have k2 := HK.out _ HB2.out; have HB2b := Lib.hid (HB2.out.alloc HB2.out.size (.cells #[.slice none 0 0, .slice none 0 0] 64)); have k2b := HK.out _ HB2b.out; have HZb : Hid (Fw (w2.alloc (.cells #[.slice none 0 0, .slice none 0 0] 64)) w2.heap.size fo0) := Lib.hid (heap_alloc_new _ _); (try have HZ2 := Lib.hid (HZa.out.later hb2)); clear hg2 hp2 hl2 hb2)
      | (go_at_call 112; refine (cloneC_any q m d M _ (by first | exact (HFA.out _ HB2.out).2.2.2.1 | exact (HFA.out _ HB2b.out).2.2.2.1) HF.out.2.2.2.2.1 HF.out.2.2.2.2.2 HNMm.out).mono ?_; rintro e w3 ⟨q3, d3, rfl, hg3, hp3, hl3, hb3⟩; have HG3 := Lib.hid hg3; have HP3 := Lib.hid hp3; have HL3 := Lib.hid hl3; have HB3 : Hid (Below wA.heap.size wA w3) := Lib.hid (by first | exact below_step HB2.out hb3 | exact below_step HB2b.out hb3); have HX3 : Hid (Below w2.heap.size w2 w3) := Lib.hid (by first | exact hb3 | exact below_step ((Below.refl _ _).alloc (Nat.le_refl _) _) hb3); have k3 := HK.out _ HB3.out; have k3b := HK.out _ (HB3.out.alloc HB3.out.size (.cells #[.slice none 0 0, .slice none 0 0] 64)); have k3c := HK.out _ (HB3.out.alloc HB3.out.size (.cells #[.slice p2 l c2, .slice q3 m d3] 64)); have k3d := HK.out _ ((HB3.out.setCell (p := ⟨wA.heap.size, 0, none⟩) (Nat.le_refl _) (.slice p2 l c2)).setCell (p := ⟨wA.heap.size, 1, none⟩) (Nat.le_refl _) (.slice q3 m d3)); have k3e := HK.out _ ((HB3.out.setCell (p := ⟨w2.heap.size, 0, none⟩) HB2.out.size (.slice p2 l c2)).setCell (p := ⟨w2.heap.size, 1, none⟩) HB2.out.size (.slice q3 m d3)); (try (have HZ3 := Lib.hid (HZ2.out.later HX3.out); obtain ⟨z0, z1⟩ := HZ3.out.cells; have f0 := HZ3.out.frozen 0; have f1 := HZ3.out.frozen 1)); (try (have HZ3 := Lib.hid (HZb.out.later hb3); obtain ⟨z0, z1⟩ := HZ3.out.cells; have f0 := HZ3.out.frozen 0; have f1 := HZ3.out.frozen 1)); have HQ3 : Hid (w2.heap.size ≤ w3.heap.size) := Lib.hid HX3.out.size; have HGK : Hid (Gw encC w3 w2.heap.size (.slice q3 m d3) M) := Lib.hid (by first | exact hg3 | exact hg3.mono (by simp)); clear hg3 hp3 hl3 hb3))
    all_goals (go_wp2_with fail)
    all_goals go_meet
    all_goals (first
      | exact ⟨_, w2.heap.size, ⟨p2, l, c2, q3, m, d3, L, M⟩, rfl, rfl, Lib.hid (heap_alloc_new _ _), Lib.hid ⟨(HG2.out.later HX3.out).later ((Below.refl _ _).alloc (Nat.le_refl _) _), HP2.out, HL2.out, HG3.out.gs.later ((Below.refl _ _).alloc (Nat.le_refl _) _), HP3.out, HL3.out⟩, Lib.hid rfl, Lib.hid (HGK.out.alloc _), Lib.hid HG2.out.lo, Lib.hid HB2.out.size, Lib.hid (Nat.le_trans HQ3.out (by simp)), Lib.hid (HB3.out.alloc HB3.out.size _), Lib.hid HB3.out.size⟩
      | exact ⟨_, w2.heap.size, ⟨p2, l, c2, q3, m, d3, L, M⟩, rfl, rfl, Lib.hid (cells2_storedF HZ3.out _ _), Lib.hid ⟨(HG2.out.later HX3.out).stored flatN HZ3.out.sl2 (stored2_keepF _ _ _ _), HP2.out, HL2.out, HG3.out.gs.stored flatC HZ3.out.sl2 (stored2_keepF _ _ _ _), HP3.out, HL3.out⟩, Lib.hid rfl, Lib.hid (HGK.out.storedF HZ3.out tC_ne (stored2_keepF _ _ _ _)), Lib.hid HG2.out.lo, Lib.hid HB2.out.size, Lib.hid (Nat.le_trans HQ3.out (size_set2 _ _ _ _)), Lib.hid ((HB3.out.setCell (p := ⟨w2.heap.size, 0, none⟩) HB2.out.size _).setCell (p := ⟨w2.heap.size, 1, none⟩) HB2.out.size _), Lib.hid HB2.out.size⟩
      | exact ⟨_, w2.heap.size, ⟨p2, l, c2, q3, m, d3, L, M⟩, rfl, rfl, Lib.hid (cells2_storedF HZ3.out _ _), Lib.hid ⟨(HG2.out.later HX3.out).stored flatN HZ3.out.sl2 (stored2_keepF _ _ _ _), HP2.out, HL2.out, HG3.out.gs.stored flatC HZ3.out.sl2 (stored2_keepF _ _ _ _), HP3.out, HL3.out⟩, Lib.hid rfl, Lib.hid (HGK.out.storedF HZ3.out tC_ne (stored2_keepF _ _ _ _)), Lib.hid HG2.out.lo, Lib.hid HB2.out.size, Lib.hid (Nat.le_trans HQ3.out (size_set2 _ _ _ _)), Lib.hid ((HB3.out.setCell (p := ⟨wA.heap.size, 0, none⟩) (Nat.le_refl _) _).setCell (p := ⟨wA.heap.size, 1, none⟩) (Nat.le_refl _) _), Lib.hid (Nat.le_refl _)⟩)
  case rest =>
    obtain ⟨G, K, ⟨yp, yn, yc, yq, ym, yd, yL, yM⟩, rfl, hym, HY, HFY, HYF, HGY, HLO, HAK, HKW, HB4, HAG⟩ := hcut
    dsimp only at hym
    subst hym
    have HG2L := Lib.hid HZ.out.lt
    have HZ4 := Lib.hid (HZ.out.later HB4.out)
    have HYL : Hid (yM.length = ym) := Lib.hid HGY.out.len
    have HFX := Lib.hid (HFA.out _ HB4.out)
    obtain ⟨i0, i1⟩ := (HI.out.later HB4.out).cells
    obtain ⟨g0, g1, g2, g3⟩ := (HC.out.later HB4.out).cells
    clear HK k0 k1 k0b HD0 HD1 HZa HFA
    by_cases he : er = 0
    · have HP : Hid (doP diskP F ⟨ck, ca, cb, ci⟩ = ⟨F.l, F.p ++ [⟨ck, ca, cb, ci⟩]⟩) := Lib.hid (by rw [HDO.out, if_pos he])
      subst he
      have HZL : Hid (yM.length + 1 ≤ 2097152) := Lib.hid (by have := HYL.out; have := HNMm.out; omega)
      go_wp2_with (first
        | (go_at_call 113; refine (HFT.out _ HFX.out).mono ?_; rintro e w5 ⟨rfl, hb5⟩
           have HY5 := Lib.hid (HY.out.later hb5)
           have HZ5 := Lib.hid (HZ4.out.later hb5)
           have HG5 := Lib.hid (HGY.out.later hb5)
           have HN5 := Lib.hid (HFY.out.1.later hb5)
           have HB5 := Lib.hid (HB4.out.trans (hb5.mono HB4.out.size))
           have HK5 := Lib.hid (Nat.le_trans HKW.out hb5.size)
           have kk := ((HC.out.later HB4.out).later hb5).cells
           clear g0 g1 g2 g3
           obtain ⟨g0, g1, g2, g3⟩ := kk
           obtain ⟨j0, j1⟩ := HY5.out.cells
           obtain ⟨wB, hwB⟩ : ∃ W, w5.alloc (.cells #[.int .i64 ck, .string ca, .string cb, .int .i64 ci] 106) = W := ⟨_, rfl⟩
           obtain ⟨GB, hGB⟩ : ∃ G, w5.heap.size = G := ⟨_, rfl⟩
           have HN6 : Hid (Gs encC wB (some ⟨GB, 0, none⟩) 1 [⟨ck, ca, cb, ci⟩]) := Lib.hid (by rw [← hwB, ← hGB]; exact Gs.one encC _ ⟨ck, ca, cb, ci⟩ _ rfl _ _)
           have HL6 : Hid (Below w5.heap.size w5 wB) := Lib.hid (by rw [← hwB]; exact below_allocF (Below.refl _ _) _)
           have HG6 := Lib.hid (HG5.out.later HL6.out)
           have HY6 := Lib.hid (HY5.out.later HL6.out)
           have HZ6 := Lib.hid (HZ5.out.later HL6.out)
           have HM6 := Lib.hid (HN5.out.later HL6.out)
           have HB6 := Lib.hid (HB5.out.trans (HL6.out.mono HB5.out.size))
           have HK6 := Lib.hid (Nat.le_trans HK5.out HL6.out.size)
           clear hb5)
        | (refine wpList_append_gen encC rfl (.tmp 23) (.tmp 25) 62 rfl Tryz.underlying62 czero 48 infoC rfl (by decide) K _ yM rfl HG6.out _ 1 1 [⟨ck, ca, cb, ci⟩] rfl HN6.out (fun h => by cases h) HZL.out HK6.out ?_; intro v7 w7 ho7 hg7
           obtain ⟨q7, d7, hv7, hld7, _, hgs7, hpn7⟩ := ho7.open
           have hlen7 : (yM ++ [(⟨ck, ca, cb, ci⟩ : Cg)]).length = ym + 1 := (List.length_append.trans (by rw [HYL.out, List.length_singleton]))
           rw [hlen7] at hv7 hld7 hgs7
           subst hv7
           have HY7 := Lib.hid (HY6.out.grown HG6.out hg7 tC_ne)
           have HZ7 := Lib.hid (HZ6.out.grown HG6.out hg7 tC_ne)
           have HM7 := Lib.hid (HM6.out.under HLO.out (below_new_gw (Below.refl K _) HG6.out hg7 HK6.out))
           have HG7 := Lib.hid hgs7
           have HP7 := Lib.hid hpn7
           have HD7 := Lib.hid hld7
           have HB7 := Lib.hid (HB6.out.trans ((below_new_gw (Below.refl K _) HG6.out hg7 HK6.out).mono HAK.out))
           obtain ⟨j2, j3⟩ := HY7.out.cells
           have f3 := HY7.out.frozen 1
           have HY8 := Lib.hid (HY7.out.set1 q7 (ym + 1) d7 (yM ++ [⟨ck, ca, cb, ci⟩]))
           have HZ8 : Hid (Fw (w7.setCell ⟨G, 1, none⟩ (.slice q7 (ym + 1) d7)) G2 fo0) := Lib.hid (by
             unfold Fw
             rw [stored1_keepF _ _ _ _ _ (by have := HG2L.out; have := HAG.out; omega)]
             exact HZ7.out)
           obtain ⟨a0, a1⟩ := HY8.out.cells
           obtain ⟨b0, b1⟩ := HZ8.out.cells
           have e0 := HZ8.out.frozen 0
           have e1 := HZ8.out.frozen 1
           clear ho7 hg7 hgs7 hpn7 hld7 hlen7))
      have HF8 : Hid (Fo.fit (w7.setCell ⟨G, 1, none⟩ (.slice q7 (ym + 1) d7)) ⟨yp, yn, yc, q7, ym + 1, d7, yL, yM ++ [⟨ck, ca, cb, ci⟩]⟩) := Lib.hid ⟨HM7.out.stored flatN HY7.out.sl2 (stored1_keepF _ _ _ _), HFY.out.2.1, HFY.out.2.2.1, HG7.out.stored flatC HY7.out.sl2 (stored1_keepF _ _ _ _), HP7.out, HD7.out⟩
      refine bodyPost_ret (Fw.results_tmp (y := ⟨yp, yn, yc, q7, ym + 1, d7, yL, yM ++ [⟨ck, ca, cb, ci⟩]⟩) (cells2_storedF HZ8.out _ _) rfl _ rfl) rfl ?_
      refine ⟨_, rfl, HF8.out.stored HZ8.out.sl2 (stored2_keepF _ _ _ _), ?_, (((below_step HBA.out HB7.out).setCell (p := ⟨G, 1, none⟩) (Nat.le_trans HBA.out.size HAG.out) _).setCell (p := ⟨G2, 0, none⟩) HGG.out _).setCell (p := ⟨G2, 1, none⟩) HGG.out _⟩
      have e := HYF.out
      simp only [Fo.fd, Fd.mk.injEq] at e
      rw [HP.out, HFL.out, HFM.out, ← e.1, ← e.2]
      rfl
    · have HP : Hid (doP diskP F ⟨ck, ca, cb, ci⟩ = F) := Lib.hid (by rw [HDO.out, if_neg he])
      have k : (er == 0) = false := by simpa using he
      clear he
      go_wp2_with (go_at_call 113; refine (HFT.out _ HFX.out).mono ?_; rintro e w5 ⟨rfl, hb5⟩
                   have HY5 := Lib.hid (HY.out.later hb5)
                   have HZ5 := Lib.hid (HZ4.out.later hb5)
                   have HF5 := Lib.hid (HFY.out.later hb5)
                   have HB5 := Lib.hid (HB4.out.trans (hb5.mono HB4.out.size))
                   obtain ⟨j0, j1⟩ := HY5.out.cells
                   obtain ⟨z0, z1⟩ := HZ5.out.cells
                   have f0 := HZ5.out.frozen 0
                   have f1 := HZ5.out.frozen 1
                   clear hb5)
      refine bodyPost_ret (Fw.results_tmp (y := ⟨yp, yn, yc, yq, ym, yd, yL, yM⟩) (cells2_storedF HZ5.out _ _) rfl _ rfl) rfl ?_
      refine ⟨_, rfl, HF5.out.stored HZ5.out.sl2 (stored2_keepF _ _ _ _), by rw [HP.out, HFD.out]; exact HYF.out, ((below_step HBA.out HB5.out).setCell (p := ⟨G2, 0, none⟩) HGG.out _).setCell (p := ⟨G2, 1, none⟩) HGG.out _⟩
end Go.Proofs.YtncbgddgkpaoeaaGreat

namespace Go.Proofs.YtncbgddgkpaoeaaGreat
set_option linter.unusedVariables false
open Go.RowKit Go.Lib Go.Maps

set_option maxRecDepth 100000 in
set_option maxHeartbeats 8000000 in
theorem rdo_any (x : Fo) (c : Cg) (w : World) (h : Fo.fit w x) (ho : x.fd.ok) (hc : c.ok) :
    Calls Tryz.prog 95 #[x.v, c.v] w fun e w' => ∃ y : Fo, e = .returned (.tuple #[y.v, .int .i64 (errP diskP x.fd c)]) ∧ Fo.fit w' y ∧ y.fd = doP diskP x.fd c ∧ Below w.heap.size w w' := by
  obtain ⟨hnm, hll, hml⟩ := Fo.len h ho
  obtain ⟨ck, ca, cb, ci⟩ := c
  have hca : ca.size ≤ 1048576 := hc.2.1
  have hcb : cb.size ≤ 1048576 := hc.2.2.1
  have HFI := Lib.hid fun W hW => rffind_any x ca W hW ho
  have HDA := Lib.hid fun W => rdisk_any ca W (by omega)
  have HDB := Lib.hid fun W => rdisk_any cb W (by omega)
  have HDO : Hid (doP diskP x.fd ⟨ck, ca, cb, ci⟩ = if errP diskP x.fd ⟨ck, ca, cb, ci⟩ = 0 then ⟨x.fd.l, x.fd.p ++ [⟨ck, ca, cb, ci⟩]⟩ else x.fd) := Lib.hid rfl
  obtain ⟨p, l, cc, q, m, d, L, M⟩ := x
  dsimp only at hnm hll hml
  have HFD : Hid (Fo.fd ⟨p, l, cc, q, m, d, L, M⟩ = ⟨L, M⟩) := Lib.hid rfl
  generalize Fo.fd ⟨p, l, cc, q, m, d, L, M⟩ = F at *
  have HML := Lib.hid hml
  have HNMm : Hid (m ≤ 1048576) := Lib.hid (by omega)
  have HF := Lib.hid h
  unfold Fo.v at HFI ⊢
  unfold Cg.v
  dsimp only at HFI ⊢
  obtain ⟨wA, hA⟩ : ∃ A, ((w.alloc (.cells #[.slice p l cc, .slice q m d] 64)).alloc (.cells #[.int .i64 ck, .string ca, .string cb, .int .i64 ci] 106)).alloc (.cells #[.slice none 0 0, .slice none 0 0] 64) = A := ⟨_, rfl⟩
  obtain ⟨G0, hG0⟩ : ∃ G, w.heap.size = G := ⟨_, rfl⟩
  obtain ⟨G1, hG1⟩ : ∃ G, G0 + 1 = G := ⟨_, rfl⟩
  obtain ⟨G2, hG2⟩ : ∃ G, G1 + 1 = G := ⟨_, rfl⟩
  have HGG : Hid (w.heap.size ≤ G2) := Lib.hid (by omega)
  have HG02 : Hid (G0 ≠ G2) := Lib.hid (by omega)
  have HG12 : Hid (G1 ≠ G2) := Lib.hid (by omega)
  have HBA : Hid (Below w.heap.size w wA) := Lib.hid (by rw [← hA]; exact below_allocF (below_allocF (below_allocF (Below.refl _ _) _) _) _)
  have HI : Hid (Fw wA G0 ⟨p, l, cc, q, m, d, L, M⟩) := Lib.hid (by rw [← hA, ← hG0]; exact Fw.later (Fw.later (heap_alloc_new _ _) (below_allocF (Below.refl _ _) _)) (below_allocF (Below.refl _ _) _))
  have HC : Hid (Cgw wA G1 ⟨ck, ca, cb, ci⟩) := Lib.hid (by rw [← hA, ← hG1, ← hG0]; exact Cgw.later (two_newF _ _ _) (below_allocF (Below.refl _ _) _))
  have HZ : Hid (Fw wA G2 fo0) := Lib.hid (by
    rw [← hA, ← hG2, ← hG1, ← hG0]
    have := heap_alloc_new ((w.alloc (.cells #[.slice p l cc, .slice q m d] 64)).alloc (.cells #[.int .i64 ck, .string ca, .string cb, .int .i64 ci] 106)) (.cells #[.slice none 0 0, .slice none 0 0] 64)
    have e : ((w.alloc (.cells #[.slice p l cc, .slice q m d] 64)).alloc (.cells #[.int .i64 ck, .string ca, .string cb, .int .i64 ci] 106)).heap.size = w.heap.size + 1 + 1 := by simp
    rw [e] at this
    exact this)
  have HFA := Lib.hid (HF.out.later HBA.out)
  have HK : Hid (∀ W, Below wA.heap.size wA W → W.cell? ⟨G0, 0, none⟩ = some (.slice p l cc) ∧ W.cell? ⟨G0, 1, none⟩ = some (.slice q m d) ∧ W.cell? ⟨G1, 0, none⟩ = some (.int .i64 ck) ∧ W.cell? ⟨G1, 1, none⟩ = some (.string ca) ∧ W.cell? ⟨G1, 2, none⟩ = some (.string cb) ∧ W.cell? ⟨G1, 3, none⟩ = some (.int .i64 ci)) := Lib.hid fun W hW => ⟨(HI.out.later hW).cells.1, (HI.out.later hW).cells.2, (HC.out.later hW).cells.1, (HC.out.later hW).cells.2.1, (HC.out.later hW).cells.2.2.1, (HC.out.later hW).cells.2.2.2⟩
  have HK2 : Hid (∀ W v0 v1, Below wA.heap.size wA W → ((W.setCell ⟨G2, 0, none⟩ v0).setCell ⟨G2, 1, none⟩ v1).cell? ⟨G0, 0, none⟩ = some (.slice p l cc) ∧ ((W.setCell ⟨G2, 0, none⟩ v0).setCell ⟨G2, 1, none⟩ v1).cell? ⟨G0, 1, none⟩ = some (.slice q m d) ∧ ((W.setCell ⟨G2, 0, none⟩ v0).setCell ⟨G2, 1, none⟩ v1).cell? ⟨G1, 0, none⟩ = some (.int .i64 ck) ∧ ((W.setCell ⟨G2, 0, none⟩ v0).setCell ⟨G2, 1, none⟩ v1).cell? ⟨G1, 1, none⟩ = some (.string ca) ∧ ((W.setCell ⟨G2, 0, none⟩ v0).setCell ⟨G2, 1, none⟩ v1).cell? ⟨G1, 2, none⟩ = some (.string cb) ∧ ((W.setCell ⟨G2, 0, none⟩ v0).setCell ⟨G2, 1, none⟩ v1).cell? ⟨G1, 3, none⟩ = some (.int .i64 ci)) := Lib.hid fun W v0 v1 hW => by
    have h1 := HK.out W hW
    have hk := stored2_keepF W G2 v0 v1 G0 HG02.out
    have hl := stored2_keepF W G2 v0 v1 G1 HG12.out
    rw [World.cell?_of_block (a := ⟨G0, 0, none⟩) hk, World.cell?_of_block (a := ⟨G0, 1, none⟩) hk, World.cell?_of_block (a := ⟨G1, 0, none⟩) hl, World.cell?_of_block (a := ⟨G1, 1, none⟩) hl, World.cell?_of_block (a := ⟨G1, 2, none⟩) hl, World.cell?_of_block (a := ⟨G1, 3, none⟩) hl]
    exact h1
  obtain ⟨i0, i1, g0, g1, g2, g3⟩ := HK.out _ (Below.refl _ _)
  obtain ⟨r, hr⟩ : ∃ r, findP (nowQ F) ca = r := ⟨_, rfl⟩
  obtain ⟨da, hda⟩ : ∃ r, diskP (numsOf ca) = r := ⟨_, rfl⟩
  obtain ⟨db, hdb⟩ : ∃ r, diskP (numsOf cb) = r := ⟨_, rfl⟩
  have HR := Lib.hid hr
  have HDAE := Lib.hid hda
  have HDBE := Lib.hid hdb
  clear h ho hc hr hda hdb hca hcb hnm hll hml
  by_cases h1 : ck = 1
  · subst h1
    cases da with
    | false =>
      have HE : Hid (errP diskP F ⟨1, ca, cb, ci⟩ = 12) := Lib.hid (by unfold errP; dsimp only; rw [HDAE.out, if_pos rfl, if_pos rfl])
      have HP : Hid (doP diskP F ⟨1, ca, cb, ci⟩ = F) := Lib.hid (by rw [HDO.out, HE.out]; rfl)
      go_enter Tryz.func95, Tryz.ntmps95
      go_wp2_with (first
        | (go_at_call 32; refine (HFI.out _ HFA.out).mono ?_; rintro e w2 ⟨rfl, hb2⟩; rw [HR.out]; unfold fndV; dsimp only [Option.getD_none, Option.getD_some, Option.isSome_none, Option.isSome_some]; have HB2 := Lib.hid hb2; have kk := HK.out _ hb2; have HZ2 := Lib.hid (HZ.out.later hb2); have HP2 := Lib.hid (HFA.out.later hb2); have HO2 := Lib.hid (Gw.nil encC w2 w2.heap.size); obtain ⟨z0, z1⟩ := HZ2.out.cells; have f0 := HZ2.out.frozen 0; have f1 := HZ2.out.frozen 1; clear hb2; clear hA hG0 hG1 hG2; clear i0 i1 g0 g1 g2 g3; obtain ⟨i0, i1, g0, g1, g2, g3⟩ := kk)
        | (go_at_call 33; refine (HDA.out _).mono ?_; rintro e w3 ⟨rfl, rfl⟩; rw [HDAE.out]))
      refine bodyPost_ret (Fw.results_tmp (y := ⟨p, l, cc, q, m, d, L, M⟩) (cells2_storedF HZ2.out _ _) rfl _ rfl) rfl ?_
      refine ⟨⟨p, l, cc, q, m, d, L, M⟩, by rw [HE.out]; rfl, HP2.out.stored HZ2.out.sl2 (stored2_keepF _ _ _ _), by rw [HP.out]; exact HFD.out.symm, ((below_step HBA.out HB2.out).setCell (p := ⟨G2, 0, none⟩) HGG.out _).setCell (p := ⟨G2, 1, none⟩) HGG.out _⟩
    | true => cases r with
      | none =>
        have HE : Hid (errP diskP F ⟨1, ca, cb, ci⟩ = 0) := Lib.hid (by unfold errP; dsimp only; rw [HDAE.out, HR.out]; rfl)
        have HP : Hid (doP diskP F ⟨1, ca, cb, ci⟩ = ⟨F.l, F.p ++ [⟨1, ca, cb, ci⟩]⟩) := Lib.hid (by rw [HDO.out, HE.out]; rfl)
        have HZL : Hid (([] : List Cg).length + m ≤ 2097152) := Lib.hid (by have := HNMm.out; simp; omega)
        go_enter Tryz.func95, Tryz.ntmps95
        go_wp2_with (first
          | (go_at_call 32; refine (HFI.out _ HFA.out).mono ?_; rintro e w2 ⟨rfl, hb2⟩; rw [HR.out]; unfold fndV; dsimp only [Option.getD_none, Option.getD_some, Option.isSome_none, Option.isSome_some]; have HB2 := Lib.hid hb2; have kk := HK.out _ hb2; have HZ2 := Lib.hid (HZ.out.later hb2); have HP2 := Lib.hid (HFA.out.later hb2); have HO2 := Lib.hid (Gw.nil encC w2 w2.heap.size); obtain ⟨z0, z1⟩ := HZ2.out.cells; have f0 := HZ2.out.frozen 0; have f1 := HZ2.out.frozen 1; clear hb2; clear hA hG0 hG1 hG2; clear i0 i1 g0 g1 g2 g3; obtain ⟨i0, i1, g0, g1, g2, g3⟩ := kk)
          | (go_at_call 33; refine (HDA.out _).mono ?_; rintro e w3 ⟨rfl, rfl⟩; rw [HDAE.out])
          | (refine wpList_append_gen encC rfl (.const (.slice none 0 0)) (.tmp 61) 62 rfl Tryz.underlying62 czero 48 infoC rfl (by decide) w2.heap.size _ [] rfl HO2.out q m d M rfl HP2.out.2.2.2.1 HP2.out.2.2.2.2.1 HZL.out (Nat.le_refl _) ?_; intro v4 w4 ho4 hg4; rw [List.nil_append] at ho4; have HO4 := Lib.hid ho4; have HX4 := Lib.hid (below_none hg4); obtain ⟨q4, d4, hv4, _, _, _, _⟩ := ho4.open; rw [HML.out] at hv4; subst hv4; have HB4 := Lib.hid (below_step HB2.out HX4.out); clear ho4 hg4))
        clear i0 i1 g0 g1 g2 g3 z0 z1 f0 f1
        have HD5 := Lib.hid (below_drewF HB4.out)
        have HB6 := Lib.hid (below_allocF HD5.out (.cells #[.int .i64 1, .string ca, .string cb, .int .i64 ci] 106))
        have HO6 := Lib.hid ((HO4.out.later ((Below.refl _ _).drew)).alloc (.cells #[.int .i64 1, .string ca, .string cb, .int .i64 ci] 106))
        have HN6 : Hid (Gs encC (w4.drew.alloc (.cells #[.int .i64 1, .string ca, .string cb, .int .i64 ci] 106)) (some ⟨w4.drew.heap.size, 0, none⟩) 1 [⟨1, ca, cb, ci⟩]) := Lib.hid (Gs.one encC w4.drew ⟨1, ca, cb, ci⟩ _ rfl _ _)
        have HK6 : Hid (w2.heap.size ≤ (w4.drew.alloc (.cells #[.int .i64 1, .string ca, .string cb, .int .i64 ci] 106)).heap.size) := Lib.hid (Nat.le_trans HX4.out.size ((below_allocF (below_drewF (Below.refl w4.heap.size w4)) _).size))
        have k0 := HK.out _ HB4.out
        have k1 := HK.out _ HD5.out
        have k2 := HK.out _ HB6.out
        go_region_held3 (fun W => W.cell? ⟨G0, 0, none⟩ = some (.slice p l cc) ∧ W.cell? ⟨G0, 1, none⟩ = some (.slice q m d) ∧ W.cell? ⟨G1, 0, none⟩ = some (.int .i64 1) ∧ W.cell? ⟨G1, 1, none⟩ = some (.string ca) ∧ W.cell? ⟨G1, 2, none⟩ = some (.string cb) ∧ W.cell? ⟨G1, 3, none⟩ = some (.int .i64 ci)) (first | exact k0 | exact k1 | exact k2 | exact k3 | exact k4) (first | (refine step_append_gen encC rfl (.tmp 65) (.tmp 67) 62 rfl Tryz.underlying62 czero 48 infoC rfl (by decide) w2.heap.size (.slice q4 m d4) M rfl HO6.out _ _ _ [⟨1, ca, cb, ci⟩] rfl HN6.out (fun h => by cases h) (by rw [HML.out]; have := HNMm.out; omega) HK6.out ?_; intro v7 w7 ho7 hg7; obtain ⟨q7, d7, hv7, hld7, _, hgs7, hpn7⟩ := ho7.open; have hlen7 : (M ++ [(⟨1, ca, cb, ci⟩ : Cg)]).length = m + 1 := (List.length_append.trans (by rw [HML.out, List.length_singleton])); rw [hlen7] at hv7 hld7 hgs7; subst hv7; have HB7 := Lib.hid (HB6.out.trans ((below_new_gw (Below.refl w2.heap.size _) HO6.out hg7 HK6.out).mono HB2.out.size)); have k3 := HK.out _ HB7.out; have k4 := HK2.out w7 (.slice p l cc) (.slice q7 (m + 1) d7) HB7.out; have HZ7 := Lib.hid (HZ.out.later HB7.out); have HG7 := Lib.hid hgs7; have HP7 := Lib.hid hpn7; have HD7 := Lib.hid hld7; have HF7 := Lib.hid (HFA.out.later HB7.out); obtain ⟨z0, z1⟩ := HZ7.out.cells; have f0 := HZ7.out.frozen 0; have f1 := HZ7.out.frozen 1; clear ho7 hg7 hgs7 hpn7 hld7 hlen7))
        go_wp2
        refine bodyPost_ret (Fw.results_tmp (y := ⟨p, l, cc, q7, m + 1, d7, L, M ++ [⟨1, ca, cb, ci⟩]⟩) (cells2_storedF HZ7.out _ _) rfl _ rfl) rfl ?_
        refine ⟨⟨p, l, cc, q7, m + 1, d7, L, M ++ [⟨1, ca, cb, ci⟩]⟩, by rw [HE.out]; rfl, ⟨HF7.out.1.stored flatN HZ7.out.sl2 (stored2_keepF _ _ _ _), HF7.out.2.1, HF7.out.2.2.1, HG7.out.stored flatC HZ7.out.sl2 (stored2_keepF _ _ _ _), HP7.out, HD7.out⟩, by rw [HP.out, HFD.out]; rfl, ((below_step HBA.out HB7.out).setCell (p := ⟨G2, 0, none⟩) HGG.out _).setCell (p := ⟨G2, 1, none⟩) HGG.out _⟩
      | some i =>
        have HE : Hid (errP diskP F ⟨1, ca, cb, ci⟩ = 7) := Lib.hid (by unfold errP; dsimp only; rw [HDAE.out, HR.out]; rfl)
        have HP : Hid (doP diskP F ⟨1, ca, cb, ci⟩ = F) := Lib.hid (by rw [HDO.out, HE.out]; rfl)
        go_enter Tryz.func95, Tryz.ntmps95
        go_wp2_with (first
          | (go_at_call 32; refine (HFI.out _ HFA.out).mono ?_; rintro e w2 ⟨rfl, hb2⟩; rw [HR.out]; unfold fndV; dsimp only [Option.getD_none, Option.getD_some, Option.isSome_none, Option.isSome_some]; have HB2 := Lib.hid hb2; have kk := HK.out _ hb2; have HZ2 := Lib.hid (HZ.out.later hb2); have HP2 := Lib.hid (HFA.out.later hb2); have HO2 := Lib.hid (Gw.nil encC w2 w2.heap.size); obtain ⟨z0, z1⟩ := HZ2.out.cells; have f0 := HZ2.out.frozen 0; have f1 := HZ2.out.frozen 1; clear hb2; clear hA hG0 hG1 hG2; clear i0 i1 g0 g1 g2 g3; obtain ⟨i0, i1, g0, g1, g2, g3⟩ := kk)
          | (go_at_call 33; refine (HDA.out _).mono ?_; rintro e w3 ⟨rfl, rfl⟩; rw [HDAE.out]))
        refine bodyPost_ret (Fw.results_tmp (y := ⟨p, l, cc, q, m, d, L, M⟩) (cells2_storedF HZ2.out _ _) rfl _ rfl) rfl ?_
        refine ⟨⟨p, l, cc, q, m, d, L, M⟩, by rw [HE.out]; rfl, HP2.out.stored HZ2.out.sl2 (stored2_keepF _ _ _ _), by rw [HP.out]; exact HFD.out.symm, ((below_step HBA.out HB2.out).setCell (p := ⟨G2, 0, none⟩) HGG.out _).setCell (p := ⟨G2, 1, none⟩) HGG.out _⟩
  by_cases h2 : ck = 2
  · subst h2
    clear h1
    cases r with
    | none =>
      have HE : Hid (errP diskP F ⟨2, ca, cb, ci⟩ = 6) := Lib.hid (by unfold errP; dsimp only; rw [HR.out]; rfl)
      have HP : Hid (doP diskP F ⟨2, ca, cb, ci⟩ = F) := Lib.hid (by rw [HDO.out, HE.out]; rfl)
      go_enter Tryz.func95, Tryz.ntmps95
      go_wp2_with (first
        | (go_at_call 32; refine (HFI.out _ HFA.out).mono ?_; rintro e w2 ⟨rfl, hb2⟩; rw [HR.out]; unfold fndV; dsimp only [Option.getD_none, Option.getD_some, Option.isSome_none, Option.isSome_some]; have HB2 := Lib.hid hb2; have kk := HK.out _ hb2; have HZ2 := Lib.hid (HZ.out.later hb2); have HP2 := Lib.hid (HFA.out.later hb2); have HO2 := Lib.hid (Gw.nil encC w2 w2.heap.size); obtain ⟨z0, z1⟩ := HZ2.out.cells; have f0 := HZ2.out.frozen 0; have f1 := HZ2.out.frozen 1; clear hb2; clear hA hG0 hG1 hG2; clear i0 i1 g0 g1 g2 g3; obtain ⟨i0, i1, g0, g1, g2, g3⟩ := kk)
        | (go_at_call 33; refine (HDB.out _).mono ?_; rintro e w3 ⟨rfl, rfl⟩; rw [HDBE.out]))
      refine bodyPost_ret (Fw.results_tmp (y := ⟨p, l, cc, q, m, d, L, M⟩) (cells2_storedF HZ2.out _ _) rfl _ rfl) rfl ?_
      refine ⟨⟨p, l, cc, q, m, d, L, M⟩, by rw [HE.out]; rfl, HP2.out.stored HZ2.out.sl2 (stored2_keepF _ _ _ _), by rw [HP.out]; exact HFD.out.symm, ((below_step HBA.out HB2.out).setCell (p := ⟨G2, 0, none⟩) HGG.out _).setCell (p := ⟨G2, 1, none⟩) HGG.out _⟩
    | some i => cases db with
      | false =>
        have HE : Hid (errP diskP F ⟨2, ca, cb, ci⟩ = 12) := Lib.hid (by unfold errP; dsimp only; rw [HR.out, HDBE.out]; rfl)
        have HP : Hid (doP diskP F ⟨2, ca, cb, ci⟩ = F) := Lib.hid (by rw [HDO.out, HE.out]; rfl)
        go_enter Tryz.func95, Tryz.ntmps95
        go_wp2_with (first
          | (go_at_call 32; refine (HFI.out _ HFA.out).mono ?_; rintro e w2 ⟨rfl, hb2⟩; rw [HR.out]; unfold fndV; dsimp only [Option.getD_none, Option.getD_some, Option.isSome_none, Option.isSome_some]; have HB2 := Lib.hid hb2; have kk := HK.out _ hb2; have HZ2 := Lib.hid (HZ.out.later hb2); have HP2 := Lib.hid (HFA.out.later hb2); have HO2 := Lib.hid (Gw.nil encC w2 w2.heap.size); obtain ⟨z0, z1⟩ := HZ2.out.cells; have f0 := HZ2.out.frozen 0; have f1 := HZ2.out.frozen 1; clear hb2; clear hA hG0 hG1 hG2; clear i0 i1 g0 g1 g2 g3; obtain ⟨i0, i1, g0, g1, g2, g3⟩ := kk)
          | (go_at_call 33; refine (HDB.out _).mono ?_; rintro e w3 ⟨rfl, rfl⟩; rw [HDBE.out]))
        refine bodyPost_ret (Fw.results_tmp (y := ⟨p, l, cc, q, m, d, L, M⟩) (cells2_storedF HZ2.out _ _) rfl _ rfl) rfl ?_
        refine ⟨⟨p, l, cc, q, m, d, L, M⟩, by rw [HE.out]; rfl, HP2.out.stored HZ2.out.sl2 (stored2_keepF _ _ _ _), by rw [HP.out]; exact HFD.out.symm, ((below_step HBA.out HB2.out).setCell (p := ⟨G2, 0, none⟩) HGG.out _).setCell (p := ⟨G2, 1, none⟩) HGG.out _⟩
      | true =>
        have HE : Hid (errP diskP F ⟨2, ca, cb, ci⟩ = 0) := Lib.hid (by unfold errP; dsimp only; rw [HR.out, HDBE.out]; rfl)
        have HP : Hid (doP diskP F ⟨2, ca, cb, ci⟩ = ⟨F.l, F.p ++ [⟨2, ca, cb, ci⟩]⟩) := Lib.hid (by rw [HDO.out, HE.out]; rfl)
        have HZL : Hid (([] : List Cg).length + m ≤ 2097152) := Lib.hid (by have := HNMm.out; simp; omega)
        go_enter Tryz.func95, Tryz.ntmps95
        go_wp2_with (first
          | (go_at_call 32; refine (HFI.out _ HFA.out).mono ?_; rintro e w2 ⟨rfl, hb2⟩; rw [HR.out]; unfold fndV; dsimp only [Option.getD_none, Option.getD_some, Option.isSome_none, Option.isSome_some]; have HB2 := Lib.hid hb2; have kk := HK.out _ hb2; have HZ2 := Lib.hid (HZ.out.later hb2); have HP2 := Lib.hid (HFA.out.later hb2); have HO2 := Lib.hid (Gw.nil encC w2 w2.heap.size); obtain ⟨z0, z1⟩ := HZ2.out.cells; have f0 := HZ2.out.frozen 0; have f1 := HZ2.out.frozen 1; clear hb2; clear hA hG0 hG1 hG2; clear i0 i1 g0 g1 g2 g3; obtain ⟨i0, i1, g0, g1, g2, g3⟩ := kk)
          | (go_at_call 33; refine (HDB.out _).mono ?_; rintro e w3 ⟨rfl, rfl⟩; rw [HDBE.out])
          | (refine wpList_append_gen encC rfl (.const (.slice none 0 0)) (.tmp 61) 62 rfl Tryz.underlying62 czero 48 infoC rfl (by decide) w2.heap.size _ [] rfl HO2.out q m d M rfl HP2.out.2.2.2.1 HP2.out.2.2.2.2.1 HZL.out (Nat.le_refl _) ?_; intro v4 w4 ho4 hg4; rw [List.nil_append] at ho4; have HO4 := Lib.hid ho4; have HX4 := Lib.hid (below_none hg4); obtain ⟨q4, d4, hv4, _, _, _, _⟩ := ho4.open; rw [HML.out] at hv4; subst hv4; have HB4 := Lib.hid (below_step HB2.out HX4.out); clear ho4 hg4))
        clear i0 i1 g0 g1 g2 g3 z0 z1 f0 f1
        have HD5 := Lib.hid (below_drewF HB4.out)
        have HB6 := Lib.hid (below_allocF HD5.out (.cells #[.int .i64 2, .string ca, .string cb, .int .i64 ci] 106))
        have HO6 := Lib.hid ((HO4.out.later ((Below.refl _ _).drew)).alloc (.cells #[.int .i64 2, .string ca, .string cb, .int .i64 ci] 106))
        have HN6 : Hid (Gs encC (w4.drew.alloc (.cells #[.int .i64 2, .string ca, .string cb, .int .i64 ci] 106)) (some ⟨w4.drew.heap.size, 0, none⟩) 1 [⟨2, ca, cb, ci⟩]) := Lib.hid (Gs.one encC w4.drew ⟨2, ca, cb, ci⟩ _ rfl _ _)
        have HK6 : Hid (w2.heap.size ≤ (w4.drew.alloc (.cells #[.int .i64 2, .string ca, .string cb, .int .i64 ci] 106)).heap.size) := Lib.hid (Nat.le_trans HX4.out.size ((below_allocF (below_drewF (Below.refl w4.heap.size w4)) _).size))
        have k0 := HK.out _ HB4.out
        have k1 := HK.out _ HD5.out
        have k2 := HK.out _ HB6.out
        go_region_held3 (fun W => W.cell? ⟨G0, 0, none⟩ = some (.slice p l cc) ∧ W.cell? ⟨G0, 1, none⟩ = some (.slice q m d) ∧ W.cell? ⟨G1, 0, none⟩ = some (.int .i64 2) ∧ W.cell? ⟨G1, 1, none⟩ = some (.string ca) ∧ W.cell? ⟨G1, 2, none⟩ = some (.string cb) ∧ W.cell? ⟨G1, 3, none⟩ = some (.int .i64 ci)) (first | exact k0 | exact k1 | exact k2 | exact k3 | exact k4) (first | (refine step_append_gen encC rfl (.tmp 65) (.tmp 67) 62 rfl Tryz.underlying62 czero 48 infoC rfl (by decide) w2.heap.size (.slice q4 m d4) M rfl HO6.out _ _ _ [⟨2, ca, cb, ci⟩] rfl HN6.out (fun h => by cases h) (by rw [HML.out]; have := HNMm.out; omega) HK6.out ?_; intro v7 w7 ho7 hg7; obtain ⟨q7, d7, hv7, hld7, _, hgs7, hpn7⟩ := ho7.open; have hlen7 : (M ++ [(⟨2, ca, cb, ci⟩ : Cg)]).length = m + 1 := (List.length_append.trans (by rw [HML.out, List.length_singleton])); rw [hlen7] at hv7 hld7 hgs7; subst hv7; have HB7 := Lib.hid (HB6.out.trans ((below_new_gw (Below.refl w2.heap.size _) HO6.out hg7 HK6.out).mono HB2.out.size)); have k3 := HK.out _ HB7.out; have k4 := HK2.out w7 (.slice p l cc) (.slice q7 (m + 1) d7) HB7.out; have HZ7 := Lib.hid (HZ.out.later HB7.out); have HG7 := Lib.hid hgs7; have HP7 := Lib.hid hpn7; have HD7 := Lib.hid hld7; have HF7 := Lib.hid (HFA.out.later HB7.out); obtain ⟨z0, z1⟩ := HZ7.out.cells; have f0 := HZ7.out.frozen 0; have f1 := HZ7.out.frozen 1; clear ho7 hg7 hgs7 hpn7 hld7 hlen7))
        go_wp2
        refine bodyPost_ret (Fw.results_tmp (y := ⟨p, l, cc, q7, m + 1, d7, L, M ++ [⟨2, ca, cb, ci⟩]⟩) (cells2_storedF HZ7.out _ _) rfl _ rfl) rfl ?_
        refine ⟨⟨p, l, cc, q7, m + 1, d7, L, M ++ [⟨2, ca, cb, ci⟩]⟩, by rw [HE.out]; rfl, ⟨HF7.out.1.stored flatN HZ7.out.sl2 (stored2_keepF _ _ _ _), HF7.out.2.1, HF7.out.2.2.1, HG7.out.stored flatC HZ7.out.sl2 (stored2_keepF _ _ _ _), HP7.out, HD7.out⟩, by rw [HP.out, HFD.out]; rfl, ((below_step HBA.out HB7.out).setCell (p := ⟨G2, 0, none⟩) HGG.out _).setCell (p := ⟨G2, 1, none⟩) HGG.out _⟩
  by_cases h3 : ck = 3
  · subst h3
    clear h1 h2
    cases r with
    | none =>
      have HE : Hid (errP diskP F ⟨3, ca, cb, ci⟩ = 6) := Lib.hid (by unfold errP; dsimp only; rw [HR.out]; rfl)
      have HP : Hid (doP diskP F ⟨3, ca, cb, ci⟩ = F) := Lib.hid (by rw [HDO.out, HE.out]; rfl)
      go_enter Tryz.func95, Tryz.ntmps95
      go_wp2_with (first
        | (go_at_call 32; refine (HFI.out _ HFA.out).mono ?_; rintro e w2 ⟨rfl, hb2⟩; rw [HR.out]; unfold fndV; dsimp only [Option.getD_none, Option.getD_some, Option.isSome_none, Option.isSome_some]; have HB2 := Lib.hid hb2; have kk := HK.out _ hb2; have HZ2 := Lib.hid (HZ.out.later hb2); have HP2 := Lib.hid (HFA.out.later hb2); have HO2 := Lib.hid (Gw.nil encC w2 w2.heap.size); obtain ⟨z0, z1⟩ := HZ2.out.cells; have f0 := HZ2.out.frozen 0; have f1 := HZ2.out.frozen 1; clear hb2; clear hA hG0 hG1 hG2; clear i0 i1 g0 g1 g2 g3; obtain ⟨i0, i1, g0, g1, g2, g3⟩ := kk)
        | (go_at_call 33; refine (HDB.out _).mono ?_; rintro e w3 ⟨rfl, rfl⟩; rw [HDBE.out]))
      refine bodyPost_ret (Fw.results_tmp (y := ⟨p, l, cc, q, m, d, L, M⟩) (cells2_storedF HZ2.out _ _) rfl _ rfl) rfl ?_
      refine ⟨⟨p, l, cc, q, m, d, L, M⟩, by rw [HE.out]; rfl, HP2.out.stored HZ2.out.sl2 (stored2_keepF _ _ _ _), by rw [HP.out]; exact HFD.out.symm, ((below_step HBA.out HB2.out).setCell (p := ⟨G2, 0, none⟩) HGG.out _).setCell (p := ⟨G2, 1, none⟩) HGG.out _⟩
    | some i =>
      have HE : Hid (errP diskP F ⟨3, ca, cb, ci⟩ = 0) := Lib.hid (by unfold errP; dsimp only; rw [HR.out]; rfl)
      have HP : Hid (doP diskP F ⟨3, ca, cb, ci⟩ = ⟨F.l, F.p ++ [⟨3, ca, cb, ci⟩]⟩) := Lib.hid (by rw [HDO.out, HE.out]; rfl)
      have HZL : Hid (([] : List Cg).length + m ≤ 2097152) := Lib.hid (by have := HNMm.out; simp; omega)
      go_enter Tryz.func95, Tryz.ntmps95
      go_wp2_with (first
        | (go_at_call 32; refine (HFI.out _ HFA.out).mono ?_; rintro e w2 ⟨rfl, hb2⟩; rw [HR.out]; unfold fndV; dsimp only [Option.getD_none, Option.getD_some, Option.isSome_none, Option.isSome_some]; have HB2 := Lib.hid hb2; have kk := HK.out _ hb2; have HZ2 := Lib.hid (HZ.out.later hb2); have HP2 := Lib.hid (HFA.out.later hb2); have HO2 := Lib.hid (Gw.nil encC w2 w2.heap.size); obtain ⟨z0, z1⟩ := HZ2.out.cells; have f0 := HZ2.out.frozen 0; have f1 := HZ2.out.frozen 1; clear hb2; clear hA hG0 hG1 hG2; clear i0 i1 g0 g1 g2 g3; obtain ⟨i0, i1, g0, g1, g2, g3⟩ := kk)
        | (go_at_call 33; refine (HDB.out _).mono ?_; rintro e w3 ⟨rfl, rfl⟩; rw [HDBE.out])
        | (refine wpList_append_gen encC rfl (.const (.slice none 0 0)) (.tmp 61) 62 rfl Tryz.underlying62 czero 48 infoC rfl (by decide) w2.heap.size _ [] rfl HO2.out q m d M rfl HP2.out.2.2.2.1 HP2.out.2.2.2.2.1 HZL.out (Nat.le_refl _) ?_; intro v4 w4 ho4 hg4; rw [List.nil_append] at ho4; have HO4 := Lib.hid ho4; have HX4 := Lib.hid (below_none hg4); obtain ⟨q4, d4, hv4, _, _, _, _⟩ := ho4.open; rw [HML.out] at hv4; subst hv4; have HB4 := Lib.hid (below_step HB2.out HX4.out); clear ho4 hg4))
      clear i0 i1 g0 g1 g2 g3 z0 z1 f0 f1
      have HD5 := Lib.hid (below_drewF HB4.out)
      have HB6 := Lib.hid (below_allocF HD5.out (.cells #[.int .i64 3, .string ca, .string cb, .int .i64 ci] 106))
      have HO6 := Lib.hid ((HO4.out.later ((Below.refl _ _).drew)).alloc (.cells #[.int .i64 3, .string ca, .string cb, .int .i64 ci] 106))
      have HN6 : Hid (Gs encC (w4.drew.alloc (.cells #[.int .i64 3, .string ca, .string cb, .int .i64 ci] 106)) (some ⟨w4.drew.heap.size, 0, none⟩) 1 [⟨3, ca, cb, ci⟩]) := Lib.hid (Gs.one encC w4.drew ⟨3, ca, cb, ci⟩ _ rfl _ _)
      have HK6 : Hid (w2.heap.size ≤ (w4.drew.alloc (.cells #[.int .i64 3, .string ca, .string cb, .int .i64 ci] 106)).heap.size) := Lib.hid (Nat.le_trans HX4.out.size ((below_allocF (below_drewF (Below.refl w4.heap.size w4)) _).size))
      have k0 := HK.out _ HB4.out
      have k1 := HK.out _ HD5.out
      have k2 := HK.out _ HB6.out
      go_region_held3 (fun W => W.cell? ⟨G0, 0, none⟩ = some (.slice p l cc) ∧ W.cell? ⟨G0, 1, none⟩ = some (.slice q m d) ∧ W.cell? ⟨G1, 0, none⟩ = some (.int .i64 3) ∧ W.cell? ⟨G1, 1, none⟩ = some (.string ca) ∧ W.cell? ⟨G1, 2, none⟩ = some (.string cb) ∧ W.cell? ⟨G1, 3, none⟩ = some (.int .i64 ci)) (first | exact k0 | exact k1 | exact k2 | exact k3 | exact k4) (first | (refine step_append_gen encC rfl (.tmp 65) (.tmp 67) 62 rfl Tryz.underlying62 czero 48 infoC rfl (by decide) w2.heap.size (.slice q4 m d4) M rfl HO6.out _ _ _ [⟨3, ca, cb, ci⟩] rfl HN6.out (fun h => by cases h) (by rw [HML.out]; have := HNMm.out; omega) HK6.out ?_; intro v7 w7 ho7 hg7; obtain ⟨q7, d7, hv7, hld7, _, hgs7, hpn7⟩ := ho7.open; have hlen7 : (M ++ [(⟨3, ca, cb, ci⟩ : Cg)]).length = m + 1 := (List.length_append.trans (by rw [HML.out, List.length_singleton])); rw [hlen7] at hv7 hld7 hgs7; subst hv7; have HB7 := Lib.hid (HB6.out.trans ((below_new_gw (Below.refl w2.heap.size _) HO6.out hg7 HK6.out).mono HB2.out.size)); have k3 := HK.out _ HB7.out; have k4 := HK2.out w7 (.slice p l cc) (.slice q7 (m + 1) d7) HB7.out; have HZ7 := Lib.hid (HZ.out.later HB7.out); have HG7 := Lib.hid hgs7; have HP7 := Lib.hid hpn7; have HD7 := Lib.hid hld7; have HF7 := Lib.hid (HFA.out.later HB7.out); obtain ⟨z0, z1⟩ := HZ7.out.cells; have f0 := HZ7.out.frozen 0; have f1 := HZ7.out.frozen 1; clear ho7 hg7 hgs7 hpn7 hld7 hlen7))
      go_wp2
      refine bodyPost_ret (Fw.results_tmp (y := ⟨p, l, cc, q7, m + 1, d7, L, M ++ [⟨3, ca, cb, ci⟩]⟩) (cells2_storedF HZ7.out _ _) rfl _ rfl) rfl ?_
      refine ⟨⟨p, l, cc, q7, m + 1, d7, L, M ++ [⟨3, ca, cb, ci⟩]⟩, by rw [HE.out]; rfl, ⟨HF7.out.1.stored flatN HZ7.out.sl2 (stored2_keepF _ _ _ _), HF7.out.2.1, HF7.out.2.2.1, HG7.out.stored flatC HZ7.out.sl2 (stored2_keepF _ _ _ _), HP7.out, HD7.out⟩, by rw [HP.out, HFD.out]; rfl, ((below_step HBA.out HB7.out).setCell (p := ⟨G2, 0, none⟩) HGG.out _).setCell (p := ⟨G2, 1, none⟩) HGG.out _⟩
  have HE' : Hid (errP diskP F ⟨ck, ca, cb, ci⟩ = 2) := Lib.hid (by unfold errP; dsimp only; rw [if_neg h1, if_neg h2, if_neg h3])
  by_cases h4 : ck < 1
  · have k4 : decide (ck < 1) = true := decide_eq_true h4
    clear h1 h2 h3
    have HE : Hid (errP diskP F ⟨ck, ca, cb, ci⟩ = 2) := Lib.hid (by exact HE'.out)
    have HP : Hid (doP diskP F ⟨ck, ca, cb, ci⟩ = F) := Lib.hid (by rw [HDO.out, HE.out]; rfl)
    go_enter Tryz.func95, Tryz.ntmps95
    go_wp2_with (first
      | (go_at_call 32; refine (HFI.out _ HFA.out).mono ?_; rintro e w2 ⟨rfl, hb2⟩; rw [HR.out]; unfold fndV; dsimp only [Option.getD_none, Option.getD_some, Option.isSome_none, Option.isSome_some]; have HB2 := Lib.hid hb2; have kk := HK.out _ hb2; have HZ2 := Lib.hid (HZ.out.later hb2); have HP2 := Lib.hid (HFA.out.later hb2); have HO2 := Lib.hid (Gw.nil encC w2 w2.heap.size); obtain ⟨z0, z1⟩ := HZ2.out.cells; have f0 := HZ2.out.frozen 0; have f1 := HZ2.out.frozen 1; clear hb2; clear hA hG0 hG1 hG2; clear i0 i1 g0 g1 g2 g3; obtain ⟨i0, i1, g0, g1, g2, g3⟩ := kk)
      | (go_at_call 33; refine (HDB.out _).mono ?_; rintro e w3 ⟨rfl, rfl⟩; rw [HDBE.out]))
    refine bodyPost_ret (Fw.results_tmp (y := ⟨p, l, cc, q, m, d, L, M⟩) (cells2_storedF HZ2.out _ _) rfl _ rfl) rfl ?_
    refine ⟨⟨p, l, cc, q, m, d, L, M⟩, by rw [HE.out]; rfl, HP2.out.stored HZ2.out.sl2 (stored2_keepF _ _ _ _), by rw [HP.out]; exact HFD.out.symm, ((below_step HBA.out HB2.out).setCell (p := ⟨G2, 0, none⟩) HGG.out _).setCell (p := ⟨G2, 1, none⟩) HGG.out _⟩
  have k4 : decide (ck < 1) = false := decide_eq_false h4
  have k5 : decide (ck > 3) = true := decide_eq_true (by omega)
  clear h1 h2 h3
  have HE : Hid (errP diskP F ⟨ck, ca, cb, ci⟩ = 2) := Lib.hid (by exact HE'.out)
  have HP : Hid (doP diskP F ⟨ck, ca, cb, ci⟩ = F) := Lib.hid (by rw [HDO.out, HE.out]; rfl)
  go_enter Tryz.func95, Tryz.ntmps95
  go_wp2_with (first
    | (go_at_call 32; refine (HFI.out _ HFA.out).mono ?_; rintro e w2 ⟨rfl, hb2⟩; rw [HR.out]; unfold fndV; dsimp only [Option.getD_none, Option.getD_some, Option.isSome_none, Option.isSome_some]; have HB2 := Lib.hid hb2; have kk := HK.out _ hb2; have HZ2 := Lib.hid (HZ.out.later hb2); have HP2 := Lib.hid (HFA.out.later hb2); have HO2 := Lib.hid (Gw.nil encC w2 w2.heap.size); obtain ⟨z0, z1⟩ := HZ2.out.cells; have f0 := HZ2.out.frozen 0; have f1 := HZ2.out.frozen 1; clear hb2; clear hA hG0 hG1 hG2; clear i0 i1 g0 g1 g2 g3; obtain ⟨i0, i1, g0, g1, g2, g3⟩ := kk)
    | (go_at_call 33; refine (HDB.out _).mono ?_; rintro e w3 ⟨rfl, rfl⟩; rw [HDBE.out]))
  refine bodyPost_ret (Fw.results_tmp (y := ⟨p, l, cc, q, m, d, L, M⟩) (cells2_storedF HZ2.out _ _) rfl _ rfl) rfl ?_
  refine ⟨⟨p, l, cc, q, m, d, L, M⟩, by rw [HE.out]; rfl, HP2.out.stored HZ2.out.sl2 (stored2_keepF _ _ _ _), by rw [HP.out]; exact HFD.out.symm, ((below_step HBA.out HB2.out).setCell (p := ⟨G2, 0, none⟩) HGG.out _).setCell (p := ⟨G2, 1, none⟩) HGG.out _⟩
end Go.Proofs.YtncbgddgkpaoeaaGreat
