/- Layer 11, the program: after -/
import Derived.Test.YtncbgddgkpaoeaaGreatDd16
import Derived.Lib.MinMax
set_option linter.unusedSimpArgs false
set_option linter.unusedVariables false
namespace Go.Proofs.YtncbgddgkpaoeaaGreat
set_option linter.unusedVariables false
open Go.RowKit Go.Lib Go.Maps

theorem run_makeMap_some (t k e : TypeId) (ht : Tryz.prog.underlying t = some (.map k e)) (n : Int) (W : World) : (Instr.makeMap t (some (.int .i64 n))).run Tryz.prog W = .ok (.map (some W.heap.size)) (W.alloc (.map #[] 0)) := by
  unfold Instr.makeMap
  simp only [Sem.run_bind, run_underlying ht, Result.andThen_ok]
  rfl
/-- 'x[:h]' of any slice -/
theorem Gs.slice_to {α : Type} {E : Ec α} {W : World} {p : Option Addr} {len : Nat} {L : List α} (hb : Gs E W p len L) (t : TypeId) (ht : Tryz.prog.underlying t = some (.slice E.t)) (hz : ∀ w, (Go.sizeOf E.t).run Tryz.prog w = .ok E.k w) (cap h : Nat) (hlc : len ≤ cap) (hh : h ≤ len) :
    (∀ W', (Instr.slice t (.slice p len cap) none (some (.int .i64 (h : Int))) none).run Tryz.prog W' = .ok (.slice p h cap) W') ∧ Gs E W p h (L.take h) := by
  have ht' : Tryz.prog.underlying t = some (.slice (Tryz.prog.elem t)) := by simp [Program.elem, ht]
  have he : Tryz.prog.elem t = E.t := by simp [Program.elem, ht]
  refine ⟨fun W' => ?_, hb.take h hh⟩
  rw [run_slice_h W' t _ _ _ ht' .i64 _ (by omega) (by omega), he, hz]
  cases p <;> simp [Result.andThen, sliced, Addr.add]
theorem find_take {L : List Nd} {k : Nat} (h : k < L.length) (s : ByteArray) : findP (L.take (k + 1)) s = match findP (L.take k) s with
    | some i => some i
    | none => if s = (L.getD k nd0).s then some (L.getD k nd0).id else none := by
  induction L generalizing k with
  | nil => simp at h
  | cons x L ih =>
    cases k with
    | zero =>
      show findP [x] s = _
      simp only [List.take_zero, findP, List.getD_cons_zero]
      by_cases e : x.s = s
      · rw [if_pos e, if_pos e.symm]
      · rw [if_neg e, if_neg (fun h => e h.symm)]
    | succ k =>
      rw [List.take_succ_cons, List.take_succ_cons, findP, findP, List.getD_cons_succ]
      by_cases e : x.s = s
      · rw [if_pos e, if_pos e]
      · rw [if_neg e, if_neg e]
        exact ih (by simpa using h)

set_option maxRecDepth 100000 in
set_option maxHeartbeats 4000000 in
theorem after_any (x : Fo) (n : Int) (w : World) (h : Fo.fit w x) (ho : x.fd.ok) (hn : InI n) :
    Calls Tryz.prog 80 #[x.v, .int .i64 n] w fun e w' => ∃ b, e = .returned (.map (some b)) ∧ w.heap.size ≤ b ∧ Mf w' b 1048576 (aftF x.fd n.toNat) ∧ Below w.heap.size w w' := by
  obtain ⟨hnm, hll, hml⟩ := Fo.len h ho
  have HLO := Lib.hid ho.1
  have HMO := Lib.hid ho.2.1
  have HA0 : Hid (aftF x.fd 0 = findP x.fd.l) := Lib.hid rfl
  have HAS := Lib.hid fun k hk => aftF_step (F := x.fd) (n := k) hk
  obtain ⟨p, l, c, q, m, d, L, M⟩ := x
  dsimp only at hnm hll hml
  have HFL : Hid ((Fo.fd ⟨p, l, c, q, m, d, L, M⟩).l = L) := Lib.hid rfl
  have HFM : Hid ((Fo.fd ⟨p, l, c, q, m, d, L, M⟩).p = M) := Lib.hid rfl
  rw [HFL.out] at HLO HA0
  rw [HFM.out] at HMO HAS
  obtain ⟨T, hT⟩ : ∃ T, n.toNat = T := ⟨_, rfl⟩
  rw [hT]
  obtain ⟨K, hK⟩ : ∃ K, min T m = K := ⟨_, rfl⟩
  have hKm : K ≤ m := by omega
  have HAE : Hid (aftF (Fo.fd ⟨p, l, c, q, m, d, L, M⟩) K = aftF (Fo.fd ⟨p, l, c, q, m, d, L, M⟩) T) := Lib.hid (by
    unfold aftF
    rw [HFM.out]
    congr 1
    rcases Nat.le_total T m with h1 | h1
    · rw [← hK, Nat.min_eq_left h1]
    · rw [← hK, Nat.min_eq_right h1, List.take_of_length_le (by omega), List.take_of_length_le (by omega)])
  generalize Fo.fd ⟨p, l, c, q, m, d, L, M⟩ = F at *
  have hmax : max n 0 = (T : Int) := by omega
  have hmin : min (T : Int) (m : Int) = (K : Int) := by omega
  have HLL := Lib.hid hll
  have HML := Lib.hid hml
  have hl : l ≤ 1048576 := by omega
  have hm : m ≤ 1048576 := by omega
  have HNM := Lib.hid hnm
  unfold Fo.v
  dsimp only
  obtain ⟨wA, hA⟩ : ∃ A, w.alloc (.cells #[.slice p l c, .slice q m d] 64) = A := ⟨_, rfl⟩
  have HBA : Hid (Below w.heap.size w wA) := Lib.hid (by rw [← hA]; exact below_allocF (Below.refl _ _) _)
  have HI : Hid (Fw wA w.heap.size ⟨p, l, c, q, m, d, L, M⟩) := Lib.hid (by rw [← hA]; exact heap_alloc_new _ _)
  have HFA := Lib.hid (h.later HBA.out)
  obtain ⟨hsl, hst⟩ := HFA.out.2.2.2.1.slice_to 62 Tryz.underlying62 (fun _ => by kernel_rfl) d K HFA.out.2.2.2.2.2 hKm
  have HST := Lib.hid hst
  obtain ⟨B, hB⟩ : ∃ B, wA.heap.size = B := ⟨_, rfl⟩
  obtain ⟨w1, hw1⟩ : ∃ W, wA.alloc (.map #[] 0) = W := ⟨_, rfl⟩
  have HM1 : Hid (Mf w1 B 0 (fun _ => none)) := Lib.hid (by rw [← hw1, ← hB]; exact Mf.made _)
  have HB1 : Hid (Below wA.heap.size wA w1) := Lib.hid (by rw [← hw1]; exact below_allocF (Below.refl _ _) _)
  have HBB := Lib.hid hB
  have hmm := run_makeMap_some 127 TK TE undM
  obtain ⟨i0, i1⟩ := HI.out.cells
  obtain ⟨j0, j1⟩ := (HI.out.later HB1.out).cells
  clear h ho hnm hll hml hst hK hT
  go_enter Tryz.func80, Tryz.ntmps80
  go_wp2
  clear hA i0 i1 j0 j1 hw1 hB hmm
  go_loopw [19] (fun i wr => ∃ k : Nat, k ≤ l ∧ i = .int .i64 (k : Int) ∧ Hid (Mf wr B k (findP (L.take k))) ∧ Hid (Below wA.heap.size wA wr)) (fun i _ => l - (intOf i).toNat)
  case atStart => exact ⟨0, by omega, rfl, HM1, HB1⟩
  case round =>
    clear HM1 HB1
    obtain ⟨k, hk, rfl, HM, HB⟩ := hrel
    by_cases hlt : k < l
    · obtain ⟨b, off, rfl, c0, c1⟩ := (HFA.out.1.later HB.out).nd k hlt
      have HS := Lib.hid (fun s => find_take (L := L) (k := k) (by rw [HLL.out]; exact hlt) s)
      have HYO := Lib.hid (HLO.out (L.getD k nd0) (by rw [List.getD_eq_getElem?_getD, List.getElem?_eq_getElem (by rw [HLL.out]; exact hlt)]; exact List.getElem_mem _))
      have hkn : (k : Int) < (l : Int) := by omega
      have hk0 : (0 : Int) ≤ (k : Int) := by omega
      generalize L.getD k nd0 = y at *
      obtain ⟨ys, yi⟩ := y
      dsimp only at c0 c1 HS
      have hys : ys.size ≤ 1048576 := HYO.out.1
      obtain ⟨w2, hw2⟩ : ∃ W, wr.alloc (.cells #[.string ys, .int .i64 yi] 75) = W := ⟨_, rfl⟩
      obtain ⟨G, hG⟩ : ∃ G, wr.heap.size = G := ⟨_, rfl⟩
      have HM2 : Hid (Mf w2 B k (findP (L.take k))) := Lib.hid (by rw [← hw2]; exact HM.out.alloc _)
      have HB2 : Hid (Below wA.heap.size wA w2) := Lib.hid (by rw [← hw2]; exact below_allocF HB.out _)
      have g0 : w2.cell? ⟨G, 0, none⟩ = some (.string ys) := by rw [← hw2, ← hG, cell_of_row _ _ _ _ _ _ (heap_alloc_new _ _)]; rfl
      have g1 : w2.cell? ⟨G, 1, none⟩ = some (.int .i64 yi) := by rw [← hw2, ← hG, cell_of_row _ _ _ _ _ _ (heap_alloc_new _ _)]; rfl
      obtain ⟨r, hr⟩ : ∃ r, findP (L.take k) ys = r := ⟨_, rfl⟩
      have HR := Lib.hid hr
      clear hr HM
      cases r with
      | none =>
        have HE : Hid ((fun t => if t = ys then some yi else findP (L.take k) t) = findP (L.take (k + 1))) := Lib.hid (funext fun t => by
          rw [HS.out t]
          by_cases e : t = ys
          · rw [if_pos e, e, HR.out]
            dsimp only
            rw [if_pos rfl]
          · rw [if_neg e]
            cases findP (L.take k) t with
            | none => dsimp only; rw [if_neg e]
            | some i => rfl)
        have HNB : Hid (k ≤ 4194304) := Lib.hid (by omega)
        go_wp2_with (first
          | (at_lookup; refine wpList_look rfl _ _ rfl B k _ ys rfl HM2.out rfl hys ?_; rw [HR.out]; simp only [Option.getD_none, Option.isSome_none])
          | (at_mapUpdate; refine wpList_put rfl _ _ _ rfl B k _ ys yi rfl HM2.out HNB.out rfl rfl hys HYO.out.2 ?_; intro w3 hm3 hg3; rw [HE.out] at hm3; have HM3 := Lib.hid hm3; have HB3 : Hid (Below wA.heap.size wA w3) := Lib.hid (HB2.out.grown hg3 HB2.out.size (fun j hj => by injection hj with hj; have := HBB.out; omega)); clear hm3 hg3))
        clear hw2 hG g0 g1 c0 c1
        refine ⟨?_, by simp [intOf] <;> omega⟩
        first
          | exact ⟨k + 1, by omega, by go_num, HM3, HB3⟩
          | ((repeat apply Exists.intro); refine ⟨?_, rfl⟩; exact ⟨k + 1, by omega, by go_num, HM3, HB3⟩)
      | some i =>
        have HE : Hid (findP (L.take k) = findP (L.take (k + 1))) := Lib.hid (funext fun t => by
          rw [HS.out t]
          by_cases e : t = ys
          · rw [e, HR.out]
          · cases findP (L.take k) t with
            | none => dsimp only; rw [if_neg e]
            | some i => rfl)
        have HM3 : Hid (Mf w2 B (k + 1) (findP (L.take (k + 1)))) := Lib.hid (by rw [← HE.out]; exact HM2.out.mono (Nat.le_succ _))
        go_wp2_with (at_lookup; refine wpList_look rfl _ _ rfl B k _ ys rfl HM2.out rfl hys ?_; rw [HR.out]; simp only [Option.getD_some, Option.isSome_some])
        clear hw2 hG g0 g1 c0 c1
        refine ⟨?_, by simp [intOf] <;> omega⟩
        first
          | exact ⟨k + 1, by omega, by go_num, HM3, HB2⟩
          | ((repeat apply Exists.intro); refine ⟨?_, rfl⟩; exact ⟨k + 1, by omega, by go_num, HM3, HB2⟩)
    · obtain rfl : k = l := by omega
      have HM0 : Hid (Mf wr B (k + 0) (aftF F 0)) := Lib.hid (by rw [HA0.out]; have := HM.out; rw [List.take_of_length_le (by rw [HLL.out]; exact Nat.le_refl _)] at this; exact this)
      obtain ⟨i0, i1⟩ := (HI.out.later HB.out).cells
      go_wp2
      clear i0 i1 HM
      go_loopw [48] (fun i wr => ∃ j : Nat, j ≤ K ∧ i = .int .i64 (j : Int) ∧ Hid (Mf wr B (k + j) (aftF F j)) ∧ Hid (Below wA.heap.size wA wr)) (fun i _ => K - (intOf i).toNat)
      case atStart => exact ⟨0, by omega, rfl, HM0, HB⟩
      case round =>
        clear HM0 HB
        obtain ⟨j, hj, rfl, HM, HB⟩ := hrel
        by_cases hlt : j < K
        · obtain ⟨b, off, rfl, c0, c1, c2, c3⟩ := (HST.out.later HB.out).cg j hlt
          have e : (M.take K).getD j cg0 = M.getD j cg0 := by rw [List.getD_eq_getElem?_getD, List.getElem?_take_of_lt hlt, List.getD_eq_getElem?_getD]
          rw [e] at c0 c1 c2 c3
          have HS := Lib.hid (HAS.out j (by rw [HML.out]; omega))
          have HYO := Lib.hid (HMO.out (M.getD j cg0) (by rw [List.getD_eq_getElem?_getD, List.getElem?_eq_getElem (by rw [HML.out]; omega)]; exact List.getElem_mem _))
          have hkn : (j : Int) < (K : Int) := by omega
          have hk0 : (0 : Int) ≤ (j : Int) := by omega
          clear e
          generalize M.getD j cg0 = y at *
          obtain ⟨ck, ca, cb, ci⟩ := y
          dsimp only at c0 c1 c2 c3
          obtain ⟨w2, hw2⟩ : ∃ W, wr.alloc (.cells #[.int .i64 ck, .string ca, .string cb, .int .i64 ci] 106) = W := ⟨_, rfl⟩
          obtain ⟨G, hG⟩ : ∃ G, wr.heap.size = G := ⟨_, rfl⟩
          have HM2 : Hid (Mf w2 B (k + j) (aftF F j)) := Lib.hid (by rw [← hw2]; exact HM.out.alloc _)
          have HB2 : Hid (Below wA.heap.size wA w2) := Lib.hid (by rw [← hw2]; exact below_allocF HB.out _)
          have HC2 : Hid (Cgw w2 G ⟨ck, ca, cb, ci⟩) := Lib.hid (by rw [← hw2, ← hG]; exact heap_alloc_new _ _)
          have HNB : Hid (k + j ≤ 4194303) := Lib.hid (by have := HNM.out; omega)
          have HCH := Lib.hid (change_any B (k + j) _ ⟨ck, ca, cb, ci⟩ w2 HM2.out HNB.out HYO.out)
          unfold Cg.v at HCH
          dsimp only at HCH
          obtain ⟨g0, g1, g2, g3⟩ := HC2.out.cells
          go_wp2_with fail
          clear hw2 hG g0 g1 g2 g3 c0 c1 c2 c3
          refine HCH.out.mono ?_
          rintro e3 w3 ⟨rfl, hm3, hg3⟩
          rw [← HS.out] at hm3
          have HM3 : Hid (Mf w3 B (k + (j + 1)) (aftF F (j + 1))) := Lib.hid hm3
          have HB3 : Hid (Below wA.heap.size wA w3) := Lib.hid (HB2.out.grown hg3 HB2.out.size (fun j hj => by injection hj with hj; have := HBB.out; omega))
          clear hm3 hg3
          go_wp2
          refine ⟨?_, by simp [intOf] <;> omega⟩
          first
            | exact ⟨j + 1, by omega, by go_num, HM3, HB3⟩
            | ((repeat apply Exists.intro); refine ⟨?_, rfl⟩; exact ⟨j + 1, by omega, by go_num, HM3, HB3⟩)
        · obtain rfl : j = K := by omega
          go_wp2
          go_ret
          exact ⟨B, rfl, by rw [← HBB.out]; exact HBA.out.size, by rw [← HAE.out]; exact HM.out.mono (by have := HNM.out; omega), below_step HBA.out HB.out⟩
end Go.Proofs.YtncbgddgkpaoeaaGreat
