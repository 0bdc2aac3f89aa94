/- Layer 11, the reference: Behind, Now, Find. -/
import Derived.Test.YtebkpjnnmlccmaaFolK
namespace Go.Proofs.Ytebkpjnnmlccmaa
set_option linter.unusedVariables false
open Go.RowKit Go.Lib

theorem base_drop {L : List Nd} {k : Nat} (h : k < L.length) : baseP (L.drop k) = putP (baseP (L.drop (k + 1))) (L.getD k nd0) := by
  rw [List.drop_eq_getElem_cons h, List.getD_eq_getElem?_getD, List.getElem?_eq_getElem h]
  rfl
theorem behP_zero (F : Fd) : behP F 0 = baseP F.l := rfl
theorem mem_getD {α : Type} {L : List α} {j : Nat} {d : α} (h : j < L.length) : L.getD j d ∈ L := by
  rw [List.getD_eq_getElem?_getD, List.getElem?_eq_getElem h]
  exact List.getElem_mem h
theorem baseP_bound (L : List Nd) (k : Nat) : (baseP (L.drop k)).length ≤ L.length := Nat.le_trans (baseP_length _) (by rw [List.length_drop]; omega)

set_option maxRecDepth 100000 in
set_option maxHeartbeats 4000000 in
theorem rbehind_any (x : Fo) (n : Int) (w : World) (h : Fo.fit w x) (ho : x.fd.ok) (hn : InI n) :
    Calls Try.prog 16 #[x.v, .int .i64 n] w fun e w' => ∃ v, e = .returned v ∧ Gw encN w' w.heap.size v (behP x.fd n.toNat) ∧ Below w.heap.size w w' := by
  obtain ⟨hnm, hll, hml⟩ := Fo.len h ho
  have HBE := Lib.hid (behP_length x.fd)
  have HST := Lib.hid fun k hk => behP_step (F := x.fd) (n := k) hk
  have HAL := Lib.hid fun k (hk : x.fd.p.length ≤ k) => behP_all (F := x.fd) (n := k) hk
  have HCK := Lib.hid ho.2.1
  have HF0 := Lib.hid (behP_zero x.fd)
  obtain ⟨p, l, c, q, m, d, L, M⟩ := x
  dsimp only at hnm hll hml
  have HLL := Lib.hid hll
  have HML := Lib.hid hml
  have hl : l ≤ 1048576 := by omega
  have hm : m ≤ 1048576 := by omega
  have HNM := Lib.hid hnm
  generalize hF : Fo.fd ⟨p, l, c, q, m, d, L, M⟩ = F at *
  have HFL : Hid (F.l = L) := Lib.hid (by rw [← hF]; rfl)
  have HFM : Hid (F.p = M) := Lib.hid (by rw [← hF]; rfl)
  unfold Fo.v
  obtain ⟨wA, hA⟩ : ∃ A, w.alloc (.cells #[.slice p l c, .slice q m d] 25) = A := ⟨_, rfl⟩
  have HBA : Hid (Below w.heap.size w wA) := Lib.hid (by rw [← hA]; exact below_alloc' (Below.refl _ _) _)
  have HI : Hid (Fw wA w.heap.size ⟨p, l, c, q, m, d, L, M⟩) := Lib.hid (by rw [← hA]; exact heap_alloc_new _ _)
  have HFA := Lib.hid (h.later HBA.out)
  have HB0 := Lib.hid (Below.refl wA.heap.size wA)
  have HO0 : Hid (Gw encN wA wA.heap.size (.slice none 0 0) (baseP (L.drop l))) := Lib.hid (by rw [List.drop_of_length_le (by omega)]; exact Gw.nil encN wA wA.heap.size)
  obtain ⟨i0, i1⟩ := HI.out.cells
  obtain ⟨hn0, hn1⟩ := hn
  clear h ho hnm hll hml hF
  go_enter Try.func16, Try.ntmps16
  go_wp2
  clear hA i0 i1
  go_loopw [5, 6] (fun v i wr => ∃ k : Nat, k ≤ l ∧ i = .int .i64 ((k : Int) - 1) ∧ Hid (Gw encN wr wA.heap.size v (baseP (L.drop k))) ∧ Hid (Below wA.heap.size wA wr)) (fun _ i _ => (intOf i + 1).toNat)
  case atStart => exact ⟨l, Nat.le_refl _, rfl, HO0, HB0⟩
  case round =>
    clear HO0 HB0
    obtain ⟨k, hk, rfl, HO, HB⟩ := hrel
    by_cases hk0 : k = 0
    · subst hk0
      have HO2 : Hid (Gw encN wr wA.heap.size u5 (behP F 0)) := Lib.hid (by rw [HF0.out, HFL.out]; exact HO.out)
      clear HO
      obtain ⟨i0, i1⟩ := (HI.out.later HB.out).cells
      go_wp2
      clear i0 i1
      go_loopw [5, 7] (fun v i wr => ∃ k : Nat, k ≤ m ∧ (k : Int) ≤ (n.toNat : Int) ∧ i = .int .i64 (k : Int) ∧ Hid (Gw encN wr wA.heap.size v (behP F k)) ∧ Hid (Below wA.heap.size wA wr)) (fun _ i _ => m - (intOf i).toNat)
      case atStart => exact ⟨0, by omega, by omega, rfl, HO2, HB⟩
      case round =>
        clear HO2 HB
        obtain ⟨k, hk, hkn, rfl, HO, HB⟩ := hrel
        obtain ⟨i0, i1⟩ := (HI.out.later HB.out).cells
        by_cases hlt : k < m
        · by_cases hkN : (k : Int) < n
          · obtain ⟨b, off, rfl, c0, c1, c2, c3⟩ := (HFA.out.2.2.2.1.later HB.out).cg k hlt
            have hkm : (k : Int) < (m : Int) := by omega
            have hk0 : (0 : Int) ≤ (k : Int) := by omega
            have hst := HST.out k (by rw [HFM.out, HML.out]; exact hlt)
            rw [HFM.out] at hst
            generalize M.getD k cg0 = cc at *
            obtain ⟨ck, ca, cb, ci⟩ := cc
            dsimp only at c0 c1 c2 c3
            have hlb := HBE.out k
            rw [HFL.out, HFM.out, HLL.out, HML.out] at hlb
            obtain ⟨p5, c5, hv5, _, _, hs5, _⟩ := HO.out.open
            obtain ⟨w1, hw1⟩ : ∃ W, wr.alloc (.cells #[.int .i64 ck, .string ca, .string cb, .int .i64 ci] 27) = W := ⟨_, rfl⟩
            obtain ⟨G, hG⟩ : ∃ G, wr.heap.size = G := ⟨_, rfl⟩
            have hx1 : Below wr.heap.size wr w1 := by rw [← hw1]; exact below_alloc' (Below.refl _ _) _
            have HC1 : Hid (Cw w1 G ⟨ck, ca, cb, ci⟩) := Lib.hid (by rw [← hw1, ← hG]; exact heap_alloc_new _ _)
            have HB1 := Lib.hid (below_step HB.out hx1)
            have HS1 := Lib.hid (hs5.later hx1)
            have HO1 := Lib.hid (HO.out.later hx1)
            have HI1 := Lib.hid (HI.out.later HB1.out)
            generalize hK : behP F k = K at *
            have HLB : Hid (K.length ≤ 1048576) := Lib.hid (by have := HNM.out; omega)
            have HFD := Lib.hid (rfind_any p5 _ c5 K ca w1 HS1.out (by have := HLB.out; omega))
            obtain ⟨o, hfo⟩ : ∃ o, findP K ca = o := ⟨_, rfl⟩
            rw [hfo] at HFD
            subst hv5
            obtain ⟨g0, g1, g2, g3⟩ := HC1.out.cells
            clear hx1 hs5 HO hK hlb
            by_cases h1 : ck = 1
            · have HN : Hid (behP F (k + 1) = putP K ⟨ca, ci⟩) := Lib.hid (by rw [hst, chgP, if_pos h1])
              subst h1
              clear hst hfo
              cases o <;> unfold fndV at HFD <;> dsimp only [Option.getD_none, Option.getD_some, Option.isSome_none, Option.isSome_some] at HFD
              all_goals
                go_wp2_with fail
                clear hw1 hG c0 c1 c2 c3 i0 i1
                refine HFD.out.mono ?_
                rintro e w' ⟨rfl, rfl⟩
                go_wp2_with fail
                refine (rput_any p5 _ c5 _ ⟨ca, ci⟩ w1 HS1.out HLB.out).mono ?_
                rintro e2 w2 ⟨v2, rfl, ho2, hb2⟩
                have HO2 : Hid (Gw encN w2 wA.heap.size v2 (behP F (k + 1))) := Lib.hid (by rw [HN.out]; exact ho2.mono HB1.out.size)
                have HB2 := Lib.hid (below_step HB1.out hb2)
                obtain ⟨g0, g1, g2, g3⟩ := (HC1.out.later hb2).cells
                clear ho2 hb2
                go_wp2
                refine ⟨?_, by simp [intOf]; omega⟩
                first
                  | exact ⟨k + 1, by omega, by omega, by go_num, HO2, HB2⟩
                  | ((repeat apply Exists.intro); refine ⟨?_, rfl⟩; exact ⟨k + 1, by omega, by omega, by go_num, HO2, HB2⟩)
            have k1 : (ck == 1) = false := by simpa using h1
            by_cases h2 : ck = 2
            · cases o with
              | none =>
                have HN : Hid (Gw encN w1 wA.heap.size (.slice p5 K.length c5) (behP F (k + 1))) := Lib.hid (by rw [hst, chgP, if_neg h1, if_pos h2]; dsimp only; rw [hfo]; exact HO1.out)
                subst h2
                clear hst hfo h1
                unfold fndV at HFD
                dsimp only [Option.getD_none, Option.isSome_none] at HFD
                go_wp2_with fail
                clear hw1 hG c0 c1 c2 c3 i0 i1
                refine HFD.out.mono ?_
                rintro e w' ⟨rfl, rfl⟩
                go_wp2
                refine ⟨?_, by simp [intOf]; omega⟩
                first
                  | exact ⟨k + 1, by omega, by omega, by go_num, HN, HB1⟩
                  | ((repeat apply Exists.intro); refine ⟨?_, rfl⟩; exact ⟨k + 1, by omega, by omega, by go_num, HN, HB1⟩)
              | some i =>
                have HN : Hid (behP F (k + 1) = putP (outP K ca) ⟨cb, i⟩) := Lib.hid (by rw [hst, chgP, if_neg h1, if_pos h2]; dsimp only; rw [hfo])
                subst h2
                clear hst hfo h1
                unfold fndV at HFD
                dsimp only [Option.getD_some, Option.isSome_some] at HFD
                go_wp2_with fail
                clear hw1 hG c0 c1 c2 c3 i0 i1
                refine HFD.out.mono ?_
                rintro e w' ⟨rfl, rfl⟩
                have HK : Hid (∀ W, Below w1.heap.size w1 W → W.cell? ⟨G, 0, none⟩ = some (.int .i64 2) ∧ W.cell? ⟨G, 1, none⟩ = some (.string ca) ∧ W.cell? ⟨G, 2, none⟩ = some (.string cb) ∧ W.cell? ⟨G, 3, none⟩ = some (.int .i64 ci)) := Lib.hid fun W hW => (HC1.out.later hW).cells
                have HD1 := Lib.hid (below_drew' (Below.refl w1.heap.size w1))
                have s0 := HK.out _ (Below.refl _ _)
                have s1 := HK.out _ HD1.out
                clear g0 g1 g2 g3
                obtain ⟨g0, g1, g2, g3⟩ := s0
                have s0 := HK.out _ (Below.refl _ _)
                go_wp2
                clear g0 g1 g2 g3
                go_region_held3 (fun W => W.cell? ⟨G, 0, none⟩ = some (.int .i64 2) ∧ W.cell? ⟨G, 1, none⟩ = some (.string ca) ∧ W.cell? ⟨G, 2, none⟩ = some (.string cb) ∧ W.cell? ⟨G, 3, none⟩ = some (.int .i64 ci)) (first | exact s0 | exact s1 | exact s2 | exact s3) (first
                  | (go_at_call 29; refine (rwithout_any p5 _ c5 K ca _ (HS1.out.later HD1.out) HLB.out).mono ?_; rintro e2 w2 ⟨v2, rfl, ho2, hb2⟩; obtain ⟨p2, c2', hv2, _, _, hs2, _⟩ := ho2.open; subst hv2; have HS2 := Lib.hid hs2; have HB2 := Lib.hid (below_step HD1.out hb2); have s2 := HK.out _ HB2.out; clear ho2 hb2 hs2)
                  | (go_at_call 28; refine (rput_any p2 _ c2' _ ⟨cb, i⟩ _ HS2.out (Nat.le_trans (outP_length _ _) HLB.out)).mono ?_; rintro e3 w3 ⟨v3, rfl, ho3, hb3⟩; have HO3 : Hid (Gw encN w3 wA.heap.size v3 (behP F (k + 1))) := Lib.hid (by rw [HN.out]; exact ho3.mono (Nat.le_trans HB1.out.size HB2.out.size)); have HB3 := Lib.hid (below_step HB2.out hb3); have s3 := HK.out _ HB3.out; clear ho3 hb3))
                obtain ⟨g0, g1, g2, g3⟩ := s3
                have HB4 := Lib.hid (below_step HB1.out HB3.out)
                go_wp2
                refine ⟨?_, by simp [intOf]; omega⟩
                first
                  | exact ⟨k + 1, by omega, by omega, by go_num, HO3, HB4⟩
                  | ((repeat apply Exists.intro); refine ⟨?_, rfl⟩; exact ⟨k + 1, by omega, by omega, by go_num, HO3, HB4⟩)
            have k2 : (ck == 2) = false := by simpa using h2
            by_cases h3 : ck = 3
            · have HN : Hid (behP F (k + 1) = outP K ca) := Lib.hid (by rw [hst, chgP, if_neg h1, if_neg h2, if_pos h3])
              subst h3
              clear hst hfo h1 h2
              cases o <;> unfold fndV at HFD <;> dsimp only [Option.getD_none, Option.getD_some, Option.isSome_none, Option.isSome_some] at HFD
              all_goals
                go_wp2_with fail
                clear hw1 hG c0 c1 c2 c3 i0 i1
                refine HFD.out.mono ?_
                rintro e w' ⟨rfl, rfl⟩
                go_wp2_with fail
                refine (rwithout_any p5 _ c5 _ ca w1 HS1.out HLB.out).mono ?_
                rintro e2 w2 ⟨v2, rfl, ho2, hb2⟩
                have HO2 : Hid (Gw encN w2 wA.heap.size v2 (behP F (k + 1))) := Lib.hid (by rw [HN.out]; exact ho2.mono HB1.out.size)
                have HB2 := Lib.hid (below_step HB1.out hb2)
                obtain ⟨g0, g1, g2, g3⟩ := (HC1.out.later hb2).cells
                clear ho2 hb2
                go_wp2
                refine ⟨?_, by simp [intOf]; omega⟩
                first
                  | exact ⟨k + 1, by omega, by omega, by go_num, HO2, HB2⟩
                  | ((repeat apply Exists.intro); refine ⟨?_, rfl⟩; exact ⟨k + 1, by omega, by omega, by go_num, HO2, HB2⟩)
            · have k3 : (ck == 3) = false := by simpa using h3
              have HN : Hid (Gw encN w1 wA.heap.size (.slice p5 K.length c5) (behP F (k + 1))) := Lib.hid (by rw [hst, chgP, if_neg h1, if_neg h2, if_neg h3]; exact HO1.out)
              clear hst hfo h1 h2 h3
              cases o <;> unfold fndV at HFD <;> dsimp only [Option.getD_none, Option.getD_some, Option.isSome_none, Option.isSome_some] at HFD
              all_goals
                go_wp2_with fail
                clear hw1 hG c0 c1 c2 c3 i0 i1
                refine HFD.out.mono ?_
                rintro e w' ⟨rfl, rfl⟩
                go_wp2
                refine ⟨?_, by simp [intOf]; omega⟩
                first
                  | exact ⟨k + 1, by omega, by omega, by go_num, HN, HB1⟩
                  | ((repeat apply Exists.intro); refine ⟨?_, rfl⟩; exact ⟨k + 1, by omega, by omega, by go_num, HN, HB1⟩)
          · have HT : Hid (behP F k = behP F n.toNat) := Lib.hid (by congr 1; omega)
            have hkm : (k : Int) < (m : Int) := by omega
            have hkN' : n ≤ (k : Int) := by omega
            clear hkN
            go_wp2
            go_ret
            exact ⟨_, rfl, by rw [← HT.out]; exact HO.out.mono HBA.out.size, below_step HBA.out HB.out⟩
        · obtain rfl : k = m := by omega
          have HT : Hid (behP F k = behP F n.toNat) := Lib.hid (by rw [HAL.out k (by rw [HFM.out, HML.out]; exact Nat.le_refl _), HAL.out n.toNat (by rw [HFM.out, HML.out]; omega)])
          go_wp2
          go_ret
          exact ⟨_, rfl, by rw [← HT.out]; exact HO.out.mono HBA.out.size, below_step HBA.out HB.out⟩
    · obtain ⟨j, rfl⟩ : ∃ j, k = j + 1 := ⟨k - 1, by omega⟩
      have e : (((j + 1 : Nat) : Int) - 1) = (j : Int) := by omega
      rw [e]
      clear hk0 e
      have hlt : j < l := by omega
      obtain ⟨b, off, rfl, c0, c1⟩ := (HFA.out.1.later HB.out).nd j hlt
      obtain ⟨i0, i1⟩ := (HI.out.later HB.out).cells
      have hkn : (j : Int) < (l : Int) := by omega
      have hk0 : (0 : Int) ≤ (j : Int) := by omega
      have HS := Lib.hid (base_drop (L := L) (k := j) (by rw [HLL.out]; exact hlt))
      have HLB := Lib.hid (Nat.le_trans (baseP_bound L (j + 1)) (by rw [HLL.out]; exact hl))
      obtain ⟨p5, c5, hv5, _, _, hs5, _⟩ := HO.out.open
      have HS5 := Lib.hid hs5
      generalize L.getD j nd0 = y at *
      obtain ⟨ys, yi⟩ := y
      dsimp only at c0 c1 HS
      subst hv5
      clear hs5 HO
      go_wp2_with fail
      refine (rput_any p5 _ c5 _ ⟨ys, yi⟩ wr HS5.out HLB.out).mono ?_
      rintro e2 w2 ⟨v2, rfl, ho2, hb2⟩
      have HO2 : Hid (Gw encN w2 wA.heap.size v2 (baseP (L.drop j))) := Lib.hid (by rw [HS.out]; exact ho2.mono HB.out.size)
      have HB2 := Lib.hid (below_step HB.out hb2)
      clear ho2 hb2 c0 c1 i0 i1
      go_wp2
      refine ⟨?_, by simp [intOf] <;> omega⟩
      first
        | exact ⟨j, by omega, by go_num, HO2, HB2⟩
        | ((repeat apply Exists.intro); refine ⟨?_, rfl⟩; exact ⟨j, by omega, by go_num, HO2, HB2⟩)

set_option maxRecDepth 100000 in
theorem rnow_any (x : Fo) (w : World) (h : Fo.fit w x) (ho : x.fd.ok) :
    Calls Try.prog 13 #[x.v] w fun e w' => ∃ v, e = .returned v ∧ Gw encN w' w.heap.size v (nowP x.fd) ∧ Below w.heap.size w w' := by
  obtain ⟨hnm, hll, hml⟩ := Fo.len h ho
  have HBH := Lib.hid fun W (hW : Fo.fit W x) => rbehind_any x (x.m : Int) W hW ho ⟨by omega, by omega⟩
  have HN : Hid (behP x.fd (x.m : Int).toNat = nowP x.fd) := Lib.hid (behP_all (by rw [Int.toNat_natCast]; show x.M.length ≤ x.m; rw [hml]; exact Nat.le_refl _))
  rw [HN.out] at HBH
  obtain ⟨p, l, c, q, m, d, L, M⟩ := x
  dsimp only at hnm hll hml HBH
  generalize hF : Fo.fd ⟨p, l, c, q, m, d, L, M⟩ = F at *
  have HF := Lib.hid h
  unfold Fo.v at HBH ⊢
  dsimp only at HBH ⊢
  obtain ⟨wA, hA⟩ : ∃ A, w.alloc (.cells #[.slice p l c, .slice q m d] 25) = A := ⟨_, rfl⟩
  have HBA : Hid (Below w.heap.size w wA) := Lib.hid (by rw [← hA]; exact below_alloc' (Below.refl _ _) _)
  have HI : Hid (Fw wA w.heap.size ⟨p, l, c, q, m, d, L, M⟩) := Lib.hid (by rw [← hA]; exact heap_alloc_new _ _)
  obtain ⟨i0, i1⟩ := HI.out.cells
  clear h ho hnm hll hml hF HN
  go_enter Try.func13, Try.ntmps13
  go_wp2_with fail
  clear hA i0 i1
  refine (HBH.out wA (HF.out.later HBA.out)).mono ?_
  rintro e2 w2 ⟨v2, rfl, ho2, hb2⟩
  have HO2 := Lib.hid (ho2.mono HBA.out.size)
  have HB2 := Lib.hid (below_step HBA.out hb2)
  clear ho2 hb2
  go_wp2
  go_ret
  exact ⟨_, rfl, HO2.out, HB2.out⟩

set_option maxRecDepth 100000 in
theorem rffind_any (x : Fo) (s : ByteArray) (w : World) (h : Fo.fit w x) (ho : x.fd.ok) :
    Calls Try.prog 9 #[x.v, .string s] w fun e w' => e = .returned (fndV (findP (nowP x.fd) s)) ∧ Below w.heap.size w w' := by
  obtain ⟨hnm, hll, hml⟩ := Fo.len h ho
  have HBH := Lib.hid fun W (hW : Fo.fit W x) => rnow_any x W hW ho
  have HLN : Hid ((nowP x.fd).length ≤ 1048576) := Lib.hid (Nat.le_trans (behP_length _ _) (by show x.L.length + x.M.length ≤ _; omega))
  obtain ⟨p, l, c, q, m, d, L, M⟩ := x
  dsimp only at hnm hll hml HBH
  generalize hF : Fo.fd ⟨p, l, c, q, m, d, L, M⟩ = F at *
  have HF := Lib.hid h
  unfold Fo.v at HBH ⊢
  dsimp only at HBH ⊢
  obtain ⟨wA, hA⟩ : ∃ A, w.alloc (.cells #[.slice p l c, .slice q m d] 25) = A := ⟨_, rfl⟩
  have HBA : Hid (Below w.heap.size w wA) := Lib.hid (by rw [← hA]; exact below_alloc' (Below.refl _ _) _)
  have HI : Hid (Fw wA w.heap.size ⟨p, l, c, q, m, d, L, M⟩) := Lib.hid (by rw [← hA]; exact heap_alloc_new _ _)
  obtain ⟨i0, i1⟩ := HI.out.cells
  clear h ho hnm hll hml hF
  go_enter Try.func9, Try.ntmps9
  go_wp2_with fail
  clear hA i0 i1
  refine (HBH.out wA (HF.out.later HBA.out)).mono ?_
  rintro e2 w2 ⟨v2, rfl, ho2, hb2⟩
  obtain ⟨p2, c2, hv2, _, _, hs2, _⟩ := ho2.open
  subst hv2
  have HS2 := Lib.hid hs2
  have HB2 := Lib.hid (below_step HBA.out hb2)
  clear ho2 hb2 hs2
  go_wp2_with fail
  refine (rfind_any p2 _ c2 _ s w2 HS2.out (Nat.le_trans HLN.out (by decide))).mono ?_
  rintro e3 w3 ⟨rfl, rfl⟩
  unfold fndV
  go_wp2
  go_ret2
  exact ⟨rfl, HB2.out⟩
end Go.Proofs.Ytebkpjnnmlccmaa
