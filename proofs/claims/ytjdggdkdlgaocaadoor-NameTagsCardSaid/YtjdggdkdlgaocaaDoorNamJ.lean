/- Layer 8: the walk of Number. -/
import Derived.Test.YtjdggdkdlgaocaaDoorNamI
import Derived.Test.YtjdggdkdlgaocaaDoorNamB
namespace Go.Proofs.YtjdggdkdlgaocaaDoor
set_option linter.unusedVariables false
open Go.RowKit Go.Lib

theorem parse_figs : ∀ (l : List UInt8) (acc : Nat), (∀ c, c ∈ l → 48 ≤ c.toNat ∧ c.toNat ≤ 57) → (acc + 1) * 10 ^ l.length ≤ 1000000000000000000 →
    ∃ u, Lib.parseUint10 acc l = .ok u ∧ (u : Int) = (nums8 l).foldl (fun a c => a * 10 + (c - 48)) (acc : Int) ∧ u < 1000000000000000000
  | [], acc, _, h => ⟨acc, rfl, rfl, by simp at h; omega⟩
  | c :: r, acc, hc, h => by
    have h1 := hc c List.mem_cons_self
    rw [List.length_cons, Nat.pow_succ] at h
    have hp : 1 ≤ 10 ^ r.length := Nat.one_le_pow _ _ (by decide)
    have hb : (acc * 10 + (c.toNat - 48) + 1) * 10 ^ r.length ≤ 1000000000000000000 := by
      refine Nat.le_trans (Nat.mul_le_mul_right _ (show acc * 10 + (c.toNat - 48) + 1 ≤ (acc + 1) * 10 by omega)) ?_
      rw [Nat.mul_assoc, Nat.mul_comm 10]
      exact h
    have hs : acc * 10 + (c.toNat - 48) + 1 ≤ 1000000000000000000 := Nat.le_trans (Nat.le_mul_of_pos_right _ hp) hb
    obtain ⟨u, e1, e2, e3⟩ := parse_figs r (acc * 10 + (c.toNat - 48)) (fun x hx => hc x (List.mem_cons_of_mem _ hx)) hb
    refine ⟨u, ?_, ?_, e3⟩
    · rw [Lib.parseUint10, if_pos h1, if_neg (by omega), if_neg (by omega), e1]
    · rw [e2]
      simp only [nums8, List.map_cons, List.foldl_cons]
      congr 1
      omega
theorem dig8_fig (n : Int) : ∀ x, x ∈ dig8 n → 48 ≤ x ∧ x ≤ 57 := by
  have h := nnum_dig8 n
  rw [nnum, List.all_eq_true] at h
  exact fun x hx => of_decide_eq_true (h x hx)
theorem atoi_dig8 {n : Int} (h1 : 1 ≤ n) (h2 : n ≤ 99999999) : Lib.atoiAll ((dig8 n).map fun z => UInt8.ofNat z.toNat) = .ok n := by
  have hn : nums8 ((dig8 n).map fun z => UInt8.ofNat z.toNat) = dig8 n := by
    rw [nums8, List.map_map]
    conv => rhs; rw [← List.map_id (dig8 n)]
    apply List.map_congr_left
    intro x hx
    have := dig8_fig n x hx
    simp only [Function.comp, id, UInt8.toNat_ofNat']
    omega
  have hfig : ∀ c, c ∈ ((dig8 n).map fun z => UInt8.ofNat z.toNat) → 48 ≤ c.toNat ∧ c.toNat ≤ 57 := by
    intro c hc
    obtain ⟨x, hx, rfl⟩ := List.mem_map.1 hc
    have := dig8_fig n x hx
    simp only [UInt8.toNat_ofNat']
    omega
  obtain ⟨u, e1, e2, e3⟩ := parse_figs _ 0 hfig (by rw [List.length_map, show (dig8 n).length = 8 from rfl]; decide)
  rw [hn] at e2
  have hv : (u : Int) = n := by rw [e2]; exact nval_dig8 (by omega) h2
  generalize ((dig8 n).map fun z => UInt8.ofNat z.toNat) = l at *
  cases l with
  | nil => simp [nums8, dig8] at hn
  | cons c r =>
    have hc := hfig c List.mem_cons_self
    rw [Lib.atoiAll_plain c r (by omega) (by omega), Lib.parseMag, if_neg (by simp), e1]
    simp only [Lib.signless]
    rw [if_neg (by omega), hv]

theorem numP_nil : numP [] = (0, 0) := by decide
theorem numP_good {cs : List Int} (h : numP cs ≠ (0, 0)) : filegood (numP cs).1 (numP cs).2 := by
  apply Decidable.byContradiction
  intro hg
  have h1 := fileP_numP h
  rw [fileP_bad hg] at h1
  rw [← h1] at h
  exact h numP_nil
theorem strOfNums_append (a b : List Int) : (strOfNums (a ++ b)).data.toList = (strOfNums a).data.toList ++ (strOfNums b).data.toList := by
  rw [strOfNums_data, strOfNums_data, strOfNums_data, List.map_append]
/-- what the calls come to at a name of a file -/
theorem num_cut {s : ByteArray} (h : numP (numsOf s) ≠ (0, 0)) {k : Int} (hk : (numP (numsOf s)).1 = k) :
    Lib.hasPrefix s.data.toList (strOfNums (wrd k)).data.toList = true ∧ Lib.atoiAll (Lib.trimPrefix s.data.toList (strOfNums (wrd k)).data.toList) = .ok (numP (numsOf s)).2 ∧ strOfNums (fileP k (numP (numsOf s)).2) = s := by
  have hg := numP_good h
  have hf := fileP_numP h
  rw [hk] at hg hf
  have hs : strOfNums (fileP k (numP (numsOf s)).2) = s := by rw [hf, strOfNums_numsOf]
  have hl : s.data.toList = (strOfNums (wrd k)).data.toList ++ (strOfNums (dig8 (numP (numsOf s)).2)).data.toList := by
    rw [← strOfNums_append, ← fileP_good hg, hs]
  have hp : Lib.hasPrefix s.data.toList (strOfNums (wrd k)).data.toList = true := by
    unfold Lib.hasPrefix
    rw [List.isPrefixOf_iff_prefix, hl]
    exact List.prefix_append _ _
  refine ⟨hp, ?_, hs⟩
  rw [Lib.trimPrefix, if_pos hp, hl, List.drop_left, strOfNums_data]
  exact atoi_dig8 hg.2.2.1 hg.2.2.2
theorem num_of {s : ByteArray} {k v : Int} (h1 : 1 ≤ k) (h3 : k ≤ 3) (hp : Lib.hasPrefix s.data.toList (strOfNums (wrd k)).data.toList = true) (h : strOfNums (fileP k v) = s) : numP (numsOf s) = (k, v) := by
  rw [← h, fileS_nums]
  by_cases hg : filegood k v
  · exact numP_fileP hg
  · rw [fileP_bad hg] at h
    rw [← h] at hp
    unfold Lib.hasPrefix at hp
    rw [List.isPrefixOf_iff_prefix] at hp
    have hl := hp.length_le
    rw [strOfNums_data, strOfNums_data, List.length_map, List.length_map] at hl
    have h0 : wrd k = [] := List.length_eq_zero_iff.1 (by simpa using hl)
    exact absurd ⟨h1, h3⟩ (wrd_nil.1 h0)
theorem bytes_mk (l : List UInt8) : (⟨l.toArray⟩ : ByteArray).data.toList = l := rfl
theorem trim_size (s p : ByteArray) : (⟨(Lib.trimPrefix s.data.toList p.data.toList).toArray⟩ : ByteArray).size ≤ s.size := by
  rw [size_mk, Lib.trimPrefix]
  have : s.data.toList.length = s.size := by simp
  split
  · rw [List.length_drop]; omega
  · omega
theorem str_test (s t : ByteArray) : (s.toList == t.toList) = decide (s = t) := by
  rw [Bool.eq_iff_iff, beq_iff_eq, decide_eq_true_iff, bytes_toList, bytes_toList]
  exact ⟨fun h => ByteArray.ext (Array.ext' h), fun h => by rw [h]⟩

set_option maxRecDepth 100000 in
set_option maxHeartbeats 1000000 in
theorem number_ok : NumberOk := by
  intro s w hLW hs
  have HLW := Lib.hid hLW
  clear hLW
  go_enter Tryd.func11, Tryd.ntmps11
  go_wp2
  go_loopw [4] (fun i wr => ∃ k : Int, 1 ≤ k ∧ k ≤ 4 ∧ i = .int .i64 k ∧ Hid (numP (numsOf s) = (0, 0) ∨ k ≤ (numP (numsOf s)).1) ∧ Hid (Below w.heap.size w wr)) (fun i _ => (4 - Lib.intOf i).toNat)
  case atStart => exact ⟨1, by omega, by omega, rfl, Lib.hid (by
    by_cases h : numP (numsOf s) = (0, 0)
    · exact Or.inl h
    · exact Or.inr (numP_good h).1), Lib.hid (Below.refl _ _)⟩
  case round =>
    obtain ⟨k, k1, k4, rfl, HO, HB⟩ := hrel
    by_cases hlt : k ≤ 3
    · have HP := Lib.hid fun W => prefix_any k W
      have HC := Lib.hid fun W => cut_any s (strOfNums (wrd k)) W
      have HNEXT : Hid (¬ (numP (numsOf s) ≠ (0, 0) ∧ (numP (numsOf s)).1 = k) → (numP (numsOf s) = (0, 0) ∨ k + 1 ≤ (numP (numsOf s)).1)) := Lib.hid fun hno => by
        rcases HO.out with h | h
        · exact Or.inl h
        · by_cases h0 : numP (numsOf s) = (0, 0)
          · exact Or.inl h0
          · refine Or.inr ?_
            have : (numP (numsOf s)).1 ≠ k := fun e => hno ⟨h0, e⟩
            omega
      have HCUT := Lib.hid fun (h : numP (numsOf s) ≠ (0, 0) ∧ (numP (numsOf s)).1 = k) => num_cut h.1 h.2
      have HOF := Lib.hid fun v hp h => num_of (s := s) (v := v) k1 hlt hp h
      have hsz := trim_size s (strOfNums (wrd k))
      have HA := Lib.hid fun W hW => atoi_any ⟨(Lib.trimPrefix s.data.toList (strOfNums (wrd k)).data.toList).toArray⟩ W (by omega) hW
      rw [bytes_mk] at HA
      clear HO hsz
      generalize Lib.trimPrefix s.data.toList (strOfNums (wrd k)).data.toList = rest at *
      generalize strOfNums (wrd k) = p at *
      cases hpre : Lib.hasPrefix s.data.toList p.data.toList
      · rw [hpre] at HC
        have HN2 := Lib.hid (HNEXT.out fun h => by have := (HCUT.out h).1; rw [hpre] at this; cases this)
        clear HNEXT HCUT HOF HA hpre
        go_wp2_with fail
        refine (HP.out _).mono ?_
        rintro e w1 ⟨rfl, rfl⟩
        go_wp2_with fail
        refine (HC.out _).mono ?_
        rintro e w1 ⟨rfl, rfl⟩
        go_wp2
        exact ⟨⟨k + 1, by omega, by omega, by go_num, HN2, HB⟩, by simp [Lib.intOf] <;> omega⟩
      · rw [hpre] at HC
        have HOF2 := Lib.hid fun v h => HOF.out v hpre h
        clear HOF hpre
        go_wp2_with fail
        refine (HP.out _).mono ?_
        rintro e w1 ⟨rfl, rfl⟩
        go_wp2_with fail
        refine (HC.out _).mono ?_
        rintro e w1 ⟨rfl, rfl⟩
        go_wp2_with fail
        refine (HA.out _ (HLW.out.later HB.out)).mono ?_
        rintro e w2 ⟨he, hb2⟩
        have HB2 := Lib.hid (below_step HB.out hb2)
        clear hb2 HB
        rcases he with ⟨v, hv, rfl⟩ | ⟨x, q, hno, rfl⟩
        · have HV := Lib.hid hv
          have hvb := Lib.atoiAll_bounds hv
          clear hv
          have HF := Lib.hid fun W hW => file_ok k v W hW (by unfold InI64; omega) (by unfold InI64; omega)
          have hq := str_test (strOfNums (fileP k v)) s
          by_cases heq : strOfNums (fileP k v) = s
          · rw [decide_eq_true heq] at hq
            have HR := Lib.hid (HOF2.out v heq)
            clear HCUT HOF2 HNEXT heq HV hvb
            generalize strOfNums (fileP k v) = f at *
            go_wp2_with fail
            refine (HF.out _ (HLW.out.later HB2.out)).mono ?_
            rintro e w3 ⟨rfl, hb3⟩
            have HB3 := Lib.hid (below_step HB2.out hb3)
            clear hb3
            go_wp2
            go_ret2
            exact ⟨by rw [HR.out]; rfl, HB3.out⟩
          · rw [decide_eq_false heq] at hq
            have HN2 := Lib.hid (HNEXT.out fun h => by
              obtain ⟨_, h2, h3⟩ := HCUT.out h
              rw [HV.out] at h2
              injection h2 with h2
              rw [← h2] at h3
              exact heq h3)
            clear HCUT HOF2 HNEXT heq HV hvb
            generalize strOfNums (fileP k v) = f at *
            go_wp2_with fail
            refine (HF.out _ (HLW.out.later HB2.out)).mono ?_
            rintro e w3 ⟨rfl, hb3⟩
            have HB3 := Lib.hid (below_step HB2.out hb3)
            clear hb3
            go_wp2
            exact ⟨⟨k + 1, by omega, by omega, by go_num, HN2, HB3⟩, by simp [Lib.intOf] <;> omega⟩
        · have HN2 := Lib.hid (HNEXT.out fun h => hno _ (HCUT.out h).2.1)
          clear HCUT HOF2 HNEXT hno
          go_wp2
          exact ⟨⟨k + 1, by omega, by omega, by go_num, HN2, HB2⟩, by simp [Lib.intOf] <;> omega⟩
    · obtain rfl : k = 4 := by omega
      have HR : Hid (numP (numsOf s) = (0, 0)) := Lib.hid (by
        rcases HO.out with h | h
        · exact h
        · apply Decidable.byContradiction
          intro h0
          have := (numP_good h0).2.1
          omega)
      go_wp2
      go_ret2
      exact ⟨by rw [HR.out]; rfl, HB.out⟩
end Go.Proofs.YtjdggdkdlgaocaaDoor
