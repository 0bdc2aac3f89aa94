/- Layer 11, the reference: putInt, Ids. -/
import Derived.Test.YtebkpjnnmlccmaaFolL
namespace Go.Proofs.Ytebkpjnnmlccmaa
set_option linter.unusedVariables false
open Go.RowKit Go.Lib

theorem irises_len {l m : List Int} (h : irises l) (hm : ∀ i ∈ l, i ∈ m) : l.length ≤ m.length := by
  induction l generalizing m with
  | nil => simp
  | cons a l ih =>
    obtain ⟨h1, h2⟩ := List.pairwise_cons.1 h
    have ha := hm a List.mem_cons_self
    have := ih (m := m.erase a) h2 fun i hi => (List.mem_erase_of_ne (by have := h1 i hi; omega)).2 (hm i (List.mem_cons_of_mem _ hi))
    rw [List.length_erase_of_mem ha] at this
    have hp := List.length_pos_of_mem ha
    simp only [List.length_cons]
    omega
theorem find_in {l : List Nd} {s : ByteArray} {i : Int} (h : findP l s = some i) : i ∈ l.map Nd.id := by
  induction l with
  | nil => cases h
  | cons x l ih =>
    rw [findP] at h
    by_cases e : x.s = s
    · rw [if_pos e] at h
      simp only [Option.some.injEq] at h
      rw [List.map_cons, h]
      exact List.mem_cons_self
    · rw [if_neg e] at h
      exact List.mem_cons_of_mem _ (ih h)
theorem ids_bound {F : Fd} {l : List Int} (h : irises l) (hm : ∀ i ∈ l, i ∈ idsP F) : l.length ≤ F.l.length + F.p.length := by
  have := irises_len (m := F.l.map Nd.id ++ F.p.map Cg.id) h fun i hi => by
    rcases (mem_idsP' F i).1 (hm i hi) with ⟨s, hs⟩ | ⟨c, hc, _, rfl⟩
    · exact List.mem_append_left _ (find_in hs)
    · exact List.mem_append_right _ (List.mem_map_of_mem hc)
  simpa using this
/-- the numbers, so far as the names behind k changes have been gone through up to j -/
def idsM (F : Fd) (k j : Nat) : List Int := ((behP F k).take j).foldl (fun o x => putI o x.id) (idsN F k)
theorem idsM_both (F : Fd) (k j : Nat) (hk : k ≤ F.p.length) : irises (idsM F k j) ∧ ∀ i ∈ idsM F k j, i ∈ idsP F := by
  obtain ⟨h1, h2⟩ := idsN_both F k
  obtain ⟨h3, h4⟩ := foldI_both ((behP F k).take j) h1
  refine ⟨h3, fun i hi => ?_⟩
  rw [mem_idsP]
  rcases (h4 i).1 hi with h | ⟨x, hx, h⟩
  · obtain ⟨m, hm, hh⟩ := (h2 i).1 h
    exact ⟨m, by omega, hh⟩
  · exact ⟨k, hk, x, List.mem_of_mem_take hx, h⟩
theorem idsM_len (F : Fd) (k j : Nat) (hk : k ≤ F.p.length) : (idsM F k j).length ≤ F.l.length + F.p.length := ids_bound (idsM_both F k j hk).1 (idsM_both F k j hk).2
theorem idsM_step (F : Fd) (k j : Nat) (h : j < (behP F k).length) : idsM F k (j + 1) = putI (idsM F k j) ((behP F k).getD j nd0).id := by
  unfold idsM
  rw [List.take_succ_eq_append_getElem h, List.foldl_append, List.getD_eq_getElem?_getD, List.getElem?_eq_getElem h]
  rfl
theorem idsM_end (F : Fd) (k j : Nat) (h : (behP F k).length ≤ j) : idsM F k j = idsN F (k + 1) := by
  unfold idsM
  rw [List.take_of_length_le h]
  rfl
theorem idsM_zero (F : Fd) (k : Nat) : idsM F k 0 = idsN F k := rfl
theorem putI_drop {L : List Int} {k : Nat} (h : k < L.length) (n : Int) (t : Bool) : putIR n (L.drop k) t =
    (if t = false ∧ n ≤ L.getD k 0 ∧ n < L.getD k 0 then [n] else []) ++ (L.getD k 0 :: putIR n (L.drop (k + 1)) (t || decide (n ≤ L.getD k 0))) := by
  rw [List.drop_eq_getElem_cons h, List.getD_eq_getElem?_getD, List.getElem?_eq_getElem h]
  rfl

set_option maxRecDepth 100000 in
set_option maxHeartbeats 2000000 in
theorem rputint_any (p : Option Addr) (m c : Nat) (L : List Int) (n : Int) (w : World) (h : Gs encI w p m L) (hm : m ≤ 1048576) :
    Calls Try.prog 32 #[.slice p m c, .int .i64 n] w fun e w' => ∃ v, e = .returned v ∧ Gw encI w' w.heap.size v (putI L n) ∧ Below w.heap.size w w' := by
  have H := Lib.hid h
  have HL := Lib.hid h.1
  have HB0 := Lib.hid (Below.refl w.heap.size w)
  have HO0 := Lib.hid (Gw.nil encI w w.heap.size)
  have HLN : Hid ((putI L n).length ≤ 1048577) := Lib.hid (Nat.le_trans (putIR_length n L false) (by rw [h.1]; simp; omega))
  clear h
  go_enter Try.func32, Try.ntmps32
  go_wp2
  go_loopw [5, 6, 7] (fun v t i wr => ∃ (k : Nat) (o : List Int) (tb : Bool), k ≤ m ∧ i = .int .i64 (k : Int) ∧ t = .bool tb ∧ Hid (Gw encI wr w.heap.size v o) ∧ Hid (o ++ putIR n (L.drop k) tb = putI L n) ∧ Hid (Below w.heap.size w wr)) (fun _ _ i _ => m - (intOf i).toNat)
  case atStart => exact ⟨0, [], false, by omega, rfl, rfl, HO0, Lib.hid (by simp [putI]), HB0⟩
  case round =>
    clear HO0 HB0
    obtain ⟨k, o, tb, hk, rfl, rfl, HO, HE, HB⟩ := hrel
    by_cases hlt : k < m
    · obtain ⟨b, off, rfl, c0⟩ := H.out.it k hlt
      have HS := Lib.hid (putI_drop (L := L) (k := k) (by rw [HL.out]; exact hlt) n tb)
      have hkn : (k : Int) < (m : Int) := by omega
      have hk0 : (0 : Int) ≤ (k : Int) := by omega
      generalize L.getD k 0 = y at *
      have HK : Hid (∀ W, Below w.heap.size w W → W.cell? ⟨b, off + k, none⟩ = some (.int .i64 y)) := Lib.hid fun W hW => by
        rw [hW.cell (World.block_lt_of_cell? w _ c0)]; exact c0
      clear c0
      have c0 := HK.out _ HB.out
      by_cases h1 : n ≤ y
      · by_cases h2 : tb = false ∧ n < y
        · obtain ⟨rfl, h3⟩ := h2
          have HF : Hid ((o ++ [n]) ++ [y] ++ putIR n (L.drop (k + 1)) true = putI L n) := Lib.hid (by have := HE.out; rw [HS.out, if_pos (by simp [h1, h3]), decide_eq_true h1] at this; rw [← this]; simp)
          have HZ1 : Hid (o.length + 1 ≤ 2097152) := Lib.hid (by have h2 := HLN.out; rw [← HF.out] at h2; simp at h2; omega)
          have HZ2 : Hid ((o ++ [n]).length + 1 ≤ 2097152) := Lib.hid (by have h2 := HLN.out; rw [← HF.out] at h2; simp at h2 ⊢; omega)
          clear HS HE
          have HN1 := Lib.hid (Gs.one encI wr n #[.int .i64 n] rfl 3 (0, 0))
          have HL1 := Lib.hid (below_alloc' HB.out (.cells #[.int .i64 n] 3))
          have HA1 := Lib.hid (HO.out.alloc (.cells #[.int .i64 n] 3))
          go_wp2_with (first
            | (refine wpList_append_gen encI rfl (.tmp 30) (.tmp 32) 43 rfl Try.underlying43 (.int .i64 0) 8 infoI rfl (by decide) w.heap.size _ _ rfl HA1.out _ 1 1 [n] rfl HN1.out (fun h => by cases h) HZ1.out HL1.out.size ?_; intro v1 w1 ho1 hg1; have HO1 := Lib.hid ho1; have HB1 : Hid (Below w.heap.size w w1) := Lib.hid (below_new_gw HL1.out HA1.out hg1 HL1.out.size); clear ho1 hg1 c0; have c0 := HK.out _ HB1.out; have HN2 := Lib.hid (Gs.one encI w1 y #[.int .i64 y] rfl 3 (0, 0)); have HL2 := Lib.hid (below_alloc' HB1.out (.cells #[.int .i64 y] 3)); have HA2 := Lib.hid (HO1.out.alloc (.cells #[.int .i64 y] 3)))
            | (refine wpList_append_gen encI rfl (.tmp 34) (.tmp 39) 43 rfl Try.underlying43 (.int .i64 0) 8 infoI rfl (by decide) w.heap.size _ _ rfl HA2.out _ 1 1 [y] rfl HN2.out (fun h => by cases h) HZ2.out HL2.out.size ?_; intro v2 w2 ho2 hg2; have HO2 := Lib.hid ho2; have HB2 : Hid (Below w.heap.size w w2) := Lib.hid (below_new_gw HL2.out HA2.out hg2 HL2.out.size); clear ho2 hg2))
          refine ⟨?_, by simp [intOf] <;> omega⟩
          first
            | exact ⟨k + 1, _, true, by omega, by go_num, rfl, HO2, HF, HB2⟩
            | ((repeat apply Exists.intro); refine ⟨?_, rfl⟩; exact ⟨k + 1, _, true, by omega, by go_num, rfl, HO2, HF, HB2⟩)
        · have HF : Hid (o ++ [y] ++ putIR n (L.drop (k + 1)) true = putI L n) := Lib.hid (by
            have := HE.out
            rw [HS.out, if_neg (fun h => h2 ⟨h.1, h.2.2⟩), decide_eq_true h1] at this
            rw [← this]; simp)
          have HZ1 : Hid (o.length + 1 ≤ 2097152) := Lib.hid (by have h2 := HLN.out; rw [← HF.out] at h2; simp at h2; omega)
          have HN1 := Lib.hid (Gs.one encI wr y #[.int .i64 y] rfl 3 (0, 0))
          have HL1 := Lib.hid (below_alloc' HB.out (.cells #[.int .i64 y] 3))
          have HA1 := Lib.hid (HO.out.alloc (.cells #[.int .i64 y] 3))
          clear HS HE
          cases tb
          · have h3 : ¬ n < y := fun h => h2 ⟨rfl, h⟩
            clear h2
            go_wp2_with (refine wpList_append_gen encI rfl (.tmp 34) (.tmp 39) 43 rfl Try.underlying43 (.int .i64 0) 8 infoI rfl (by decide) w.heap.size _ _ rfl HA1.out _ 1 1 [y] rfl HN1.out (fun h => by cases h) HZ1.out HL1.out.size ?_; intro v2 w2 ho2 hg2; have HO2 := Lib.hid ho2; have HB2 : Hid (Below w.heap.size w w2) := Lib.hid (below_new_gw HL1.out HA1.out hg2 HL1.out.size); clear ho2 hg2)
            refine ⟨?_, by simp [intOf] <;> omega⟩
            first
              | exact ⟨k + 1, _, true, by omega, by go_num, rfl, HO2, HF, HB2⟩
              | ((repeat apply Exists.intro); refine ⟨?_, rfl⟩; exact ⟨k + 1, _, true, by omega, by go_num, rfl, HO2, HF, HB2⟩)
          · clear h2
            go_wp2_with (refine wpList_append_gen encI rfl (.tmp 34) (.tmp 39) 43 rfl Try.underlying43 (.int .i64 0) 8 infoI rfl (by decide) w.heap.size _ _ rfl HA1.out _ 1 1 [y] rfl HN1.out (fun h => by cases h) HZ1.out HL1.out.size ?_; intro v2 w2 ho2 hg2; have HO2 := Lib.hid ho2; have HB2 : Hid (Below w.heap.size w w2) := Lib.hid (below_new_gw HL1.out HA1.out hg2 HL1.out.size); clear ho2 hg2)
            refine ⟨?_, by simp [intOf] <;> omega⟩
            first
              | exact ⟨k + 1, _, true, by omega, by go_num, rfl, HO2, HF, HB2⟩
              | ((repeat apply Exists.intro); refine ⟨?_, rfl⟩; exact ⟨k + 1, _, true, by omega, by go_num, rfl, HO2, HF, HB2⟩)
      · have HF : Hid (o ++ [y] ++ putIR n (L.drop (k + 1)) tb = putI L n) := Lib.hid (by
          have := HE.out
          rw [HS.out, if_neg (fun h => h1 h.2.1), decide_eq_false h1, Bool.or_false] at this
          rw [← this]; simp)
        have HZ1 : Hid (o.length + 1 ≤ 2097152) := Lib.hid (by have h2 := HLN.out; rw [← HF.out] at h2; simp at h2; omega)
        have HN1 := Lib.hid (Gs.one encI wr y #[.int .i64 y] rfl 3 (0, 0))
        have HL1 := Lib.hid (below_alloc' HB.out (.cells #[.int .i64 y] 3))
        have HA1 := Lib.hid (HO.out.alloc (.cells #[.int .i64 y] 3))
        clear HS HE
        cases tb
        all_goals
          go_wp2_with (refine wpList_append_gen encI rfl (.tmp 34) (.tmp 39) 43 rfl Try.underlying43 (.int .i64 0) 8 infoI rfl (by decide) w.heap.size _ _ rfl HA1.out _ 1 1 [y] rfl HN1.out (fun h => by cases h) HZ1.out HL1.out.size ?_; intro v2 w2 ho2 hg2; have HO2 := Lib.hid ho2; have HB2 : Hid (Below w.heap.size w w2) := Lib.hid (below_new_gw HL1.out HA1.out hg2 HL1.out.size); clear ho2 hg2)
          refine ⟨?_, by simp [intOf] <;> omega⟩
          first
            | exact ⟨k + 1, _, _, by omega, by go_num, rfl, HO2, HF, HB2⟩
            | ((repeat apply Exists.intro); refine ⟨?_, rfl⟩; exact ⟨k + 1, _, _, by omega, by go_num, rfl, HO2, HF, HB2⟩)
    · obtain rfl : k = m := by omega
      cases tb
      · have HF : Hid (o ++ [n] = putI L n) := Lib.hid (by
          have h := HE.out
          rw [List.drop_of_length_le (by rw [HL.out]; omega)] at h
          exact h)
        have HZ1 : Hid (o.length + 1 ≤ 2097152) := Lib.hid (by have h2 := HLN.out; rw [← HF.out] at h2; simp at h2; omega)
        have HN1 := Lib.hid (Gs.one encI wr n #[.int .i64 n] rfl 3 (0, 0))
        have HL1 := Lib.hid (below_alloc' HB.out (.cells #[.int .i64 n] 3))
        have HA1 := Lib.hid (HO.out.alloc (.cells #[.int .i64 n] 3))
        clear HE
        go_wp2_with (refine wpList_append_gen encI rfl (.tmp 43) (.tmp 45) 43 rfl Try.underlying43 (.int .i64 0) 8 infoI rfl (by decide) w.heap.size _ _ rfl HA1.out _ 1 1 [n] rfl HN1.out (fun h => by cases h) HZ1.out HL1.out.size ?_; intro v2 w2 ho2 hg2; have HO2 := Lib.hid ho2; have HB2 : Hid (Below w.heap.size w w2) := Lib.hid (below_new_gw HL1.out HA1.out hg2 HL1.out.size); clear ho2 hg2)
        go_ret
        exact ⟨_, rfl, by rw [← HF.out]; exact HO2.out, HB2.out⟩
      · have HF : Hid (o = putI L n) := Lib.hid (by
          have h := HE.out
          rw [List.drop_of_length_le (by rw [HL.out]; omega)] at h
          simpa [putIR] using h)
        go_wp2
        go_ret
        exact ⟨_, rfl, by rw [← HF.out]; exact HO.out, HB.out⟩

set_option maxRecDepth 100000 in
set_option maxHeartbeats 2000000 in
theorem rids_any (x : Fo) (w : World) (h : Fo.fit w x) (ho : x.fd.ok) :
    Calls Try.prog 19 #[x.v] w fun e w' => ∃ v, e = .returned v ∧ Gw encI w' w.heap.size v (idsP x.fd) ∧ Below w.heap.size w w' := by
  obtain ⟨hnm, hll, hml⟩ := Fo.len h ho
  have HBH := Lib.hid fun (k : Nat) (hk : k ≤ 1048576) W (hW : Fo.fit W x) => rbehind_any x (k : Int) W hW ho ⟨by omega, by omega⟩
  have HBE := Lib.hid (behP_length x.fd)
  have HID := Lib.hid (idsM_len x.fd)
  have HIS := Lib.hid (idsM_step x.fd)
  have HIE := Lib.hid (idsM_end x.fd)
  have HIP : Hid (idsP x.fd = idsN x.fd (x.fd.p.length + 1)) := Lib.hid rfl
  obtain ⟨p, l, c, q, m, d, L, M⟩ := x
  dsimp only at hnm hll hml
  have HFL : Hid ((Fo.fd ⟨p, l, c, q, m, d, L, M⟩).l.length = l) := Lib.hid hll
  have HFM : Hid ((Fo.fd ⟨p, l, c, q, m, d, L, M⟩).p.length = m) := Lib.hid hml
  have hm : m ≤ 1048576 := by omega
  have HNM := Lib.hid hnm
  have HF := Lib.hid h
  have HZ : Hid (idsN (Fo.fd ⟨p, l, c, q, m, d, L, M⟩) 0 = []) := Lib.hid rfl
  have HI0 : Hid (∀ k, idsM (Fo.fd ⟨p, l, c, q, m, d, L, M⟩) k 0 = idsN (Fo.fd ⟨p, l, c, q, m, d, L, M⟩) k) := Lib.hid fun _ => rfl
  generalize Fo.fd ⟨p, l, c, q, m, d, L, M⟩ = F at *
  unfold Fo.v at HBH ⊢
  dsimp only at HBH ⊢
  obtain ⟨wA, hA⟩ : ∃ A, w.alloc (.cells #[.slice p l c, .slice q m d] 25) = A := ⟨_, rfl⟩
  have HBA : Hid (Below w.heap.size w wA) := Lib.hid (by rw [← hA]; exact below_alloc' (Below.refl _ _) _)
  have HI : Hid (Fw wA w.heap.size ⟨p, l, c, q, m, d, L, M⟩) := Lib.hid (by rw [← hA]; exact heap_alloc_new _ _)
  have HFA := Lib.hid (HF.out.later HBA.out)
  have HB0 := Lib.hid (Below.refl wA.heap.size wA)
  have HO0 : Hid (Gw encI wA wA.heap.size (.slice none 0 0) (idsN F 0)) := Lib.hid (by rw [HZ.out]; exact Gw.nil encI wA wA.heap.size)
  obtain ⟨i0, i1⟩ := HI.out.cells
  clear h ho hnm hll hml HF HZ
  go_enter Try.func19, Try.ntmps19
  go_wp2
  clear hA i0 i1
  go_loopw [3, 4] (fun v i wr => ∃ k : Nat, k ≤ m + 1 ∧ i = .int .i64 (k : Int) ∧ Hid (Gw encI wr wA.heap.size v (idsN F k)) ∧ Hid (Below wA.heap.size wA wr)) (fun _ i _ => m + 1 - (intOf i).toNat)
  case atStart => exact ⟨0, by omega, rfl, HO0, HB0⟩
  case round =>
    clear HO0 HB0
    obtain ⟨k, hk, rfl, HO, HB⟩ := hrel
    obtain ⟨i0, i1⟩ := (HI.out.later HB.out).cells
    by_cases hlt : k ≤ m
    · have hkm : (k : Int) ≤ (m : Int) := by omega
      go_wp2_with fail
      refine (HBH.out k (by omega) wr (HFA.out.later HB.out)).mono ?_
      rintro e2 w2 ⟨v2, rfl, ho2, hb2⟩
      rw [Int.toNat_natCast] at ho2
      obtain ⟨p2, c2, hv2, _, _, hs2, _⟩ := ho2.open
      subst hv2
      have HB2 := Lib.hid (below_step HB.out hb2)
      have HS2 := Lib.hid hs2
      have HO2 : Hid (Gw encI w2 wA.heap.size u3 (idsM F k 0)) := Lib.hid (by rw [HI0.out]; exact HO.out.later hb2)
      have HI2 := Lib.hid (below_step HB.out hb2)
      obtain ⟨N, hN⟩ : ∃ N, (behP F k).length = N := ⟨_, rfl⟩
      rw [hN] at HS2
      have HN := Lib.hid hN
      have hNb : N ≤ 1048576 := by have := HBE.out k; rw [HFL.out, HFM.out] at this; have := HNM.out; omega
      rw [hN]
      have HR0 := Lib.hid (Below.refl w2.heap.size w2)
      clear hb2 hs2 ho2 HO i0 i1 hN
      go_wp2
      go_loopw [3, 6] (fun v i wr => ∃ j : Nat, j ≤ N ∧ i = .int .i64 (j : Int) ∧ Hid (Gw encI wr wA.heap.size v (idsM F k j)) ∧ Hid (Below wA.heap.size wA wr) ∧ Hid (Gs encN wr p2 N (behP F k))) (fun _ i _ => N - (intOf i).toNat)
      case atStart => exact ⟨0, by omega, rfl, HO2, HB2, HS2⟩
      case round =>
        clear HO2 HB2 HS2
        obtain ⟨j, hj, rfl, HO, HB2, HS⟩ := hrel
        by_cases hlt2 : j < N
        · obtain ⟨b, off, rfl, c0, c1⟩ := HS.out.nd j hlt2
          have HST := Lib.hid (HIS.out k j (by rw [HN.out]; exact hlt2))
          have HLN : Hid ((idsM F k j).length ≤ 1048576) := Lib.hid (by have := HID.out k j (by rw [HFM.out]; exact hlt); rw [HFL.out, HFM.out] at this; have := HNM.out; omega)
          have hjn : (j : Int) < (N : Int) := by omega
          have hj0 : (0 : Int) ≤ (j : Int) := by omega
          obtain ⟨p3, c3, hv3, _, _, hs3, _⟩ := HO.out.open
          have HS3 := Lib.hid hs3
          generalize (behP F k).getD j nd0 = y at *
          obtain ⟨ys, yi⟩ := y
          dsimp only at c0 c1 HST
          subst hv3
          clear hs3 HO
          go_wp2_with fail
          refine (rputint_any p3 _ c3 _ yi wr HS3.out HLN.out).mono ?_
          rintro e4 w4 ⟨v4, rfl, ho4, hb4⟩
          have HO4 : Hid (Gw encI w4 wA.heap.size v4 (idsM F k (j + 1))) := Lib.hid (by rw [HST.out]; exact ho4.mono HB2.out.size)
          have HB4 := Lib.hid (below_step HB2.out hb4)
          have HS4 := Lib.hid (HS.out.later hb4)
          clear ho4 hb4 c0 c1
          go_wp2
          refine ⟨?_, by simp [intOf] <;> omega⟩
          first
            | exact ⟨j + 1, by omega, by go_num, HO4, HB4, HS4⟩
            | ((repeat apply Exists.intro); refine ⟨?_, rfl⟩; exact ⟨j + 1, by omega, by go_num, HO4, HB4, HS4⟩)
        · obtain rfl : j = N := by omega
          have HO4 : Hid (Gw encI wr wA.heap.size u3 (idsN F (k + 1))) := Lib.hid (by rw [← HIE.out k j (by rw [HN.out]; exact Nat.le_refl _)]; exact HO.out)
          go_wp2
          refine ⟨?_, by simp [intOf] <;> omega⟩
          first
            | exact ⟨k + 1, by omega, by go_num, HO4, HB2⟩
            | ((repeat apply Exists.intro); refine ⟨?_, rfl⟩; exact ⟨k + 1, by omega, by go_num, HO4, HB2⟩)
    · obtain rfl : k = m + 1 := by omega
      have HF : Hid (idsN F (m + 1) = idsP F) := Lib.hid (by rw [HIP.out, HFM.out])
      have hkm : ¬ (((m + 1 : Nat) : Int) ≤ (m : Int)) := by omega
      go_wp2
      go_ret
      exact ⟨_, rfl, by rw [← HF.out]; exact HO.out.mono HBA.out.size, below_step HBA.out HB.out⟩
end Go.Proofs.Ytebkpjnnmlccmaa
