/- Layer 17, the program: sizes -/
import Derived.Test.YtahjofjblhpndaaDoorMn5
import Derived.Test.YtahjofjblhpndaaDoorMn25
import Derived.Test.YtahjofjblhpndaaDoorMn27
set_option linter.unusedSimpArgs false
set_option linter.unusedVariables false
namespace Go.Proofs.YtahjofjblhpndaaDoor
set_option linter.unusedVariables false
open Go.RowKit Go.Lib

theorem parse_figsM : ∀ (l : List UInt8) (acc : Nat), (∀ c, c ∈ l → 48 ≤ c.toNat ∧ c.toNat ≤ 57) → (acc + 1) * 10 ^ l.length ≤ 1000000000000000000 →
    ∃ u, Lib.parseUint10 acc l = .ok u ∧ (u : Int) = accN (acc : Int) (l.map fun c => (c.toNat : Int)) ∧ u < 1000000000000000000
  | [], acc, _, h => ⟨acc, rfl, rfl, by simp at h; omega⟩
  | c :: r, acc, hc, h => by
    have h1 := hc c List.mem_cons_self
    rw [List.length_cons, Nat.pow_succ] at h
    have hp : 1 ≤ 10 ^ r.length := Nat.one_le_pow _ _ (by decide)
    have hb : (acc * 10 + (c.toNat - 48) + 1) * 10 ^ r.length ≤ 1000000000000000000 := by
      refine Nat.le_trans (Nat.mul_le_mul_right _ (show acc * 10 + (c.toNat - 48) + 1 ≤ (acc + 1) * 10 by omega)) ?_
      rw [Nat.mul_assoc, Nat.mul_comm 10]
      exact h
    have hs : acc * 10 + (c.toNat - 48) + 1 ≤ 1000000000000000000 := Nat.le_trans (Nat.le_mul_of_pos_right _ hp) hb
    obtain ⟨u, e1, e2, e3⟩ := parse_figsM r (acc * 10 + (c.toNat - 48)) (fun x hx => hc x (List.mem_cons_of_mem _ hx)) hb
    refine ⟨u, ?_, ?_, e3⟩
    · rw [Lib.parseUint10, if_pos h1, if_neg (by omega), if_neg (by omega), e1]
    · rw [e2]
      simp only [accN, List.map_cons, List.foldl_cons]
      congr 1
      omega
theorem dgs_byteM (n : Nat) : ∀ j, 0 ≤ (dgs n).getD j 0 ∧ (dgs n).getD j 0 < 256 := fun j => by
  by_cases hj : j < (dgs n).length
  · rw [List.getD_eq_getElem?_getD, List.getElem?_eq_getElem hj]
    have := dgs_fig n _ (List.getElem_mem hj)
    show 0 ≤ (dgs n)[j] ∧ (dgs n)[j] < 256
    omega
  · rw [List.getD_eq_getElem?_getD, List.getElem?_eq_none (by omega)]
    simp
theorem itoaM_any (n : Nat) (w : World) (hn : n ≤ 999999999) (hL : Lw w) : Calls Tryd.prog 25 #[.int .i64 (n : Int)] w fun e w' => e = .returned (.string (strOfNums (dgs n))) ∧ Below w.heap.size w w' := by
  have e : (⟨(Lib.itoa (n : Int)).toArray⟩ : ByteArray) = strOfNums (dgs n) := by rw [← dgs_itoa, strOfNums_numsOf]
  rw [← e]
  exact itoa_tab (n : Int) w (by omega) (by omega) hL.1
theorem str_testM (s t : ByteArray) : (s.toList == t.toList) = decide (s = t) := by
  rw [Bool.eq_iff_iff, beq_iff_eq, decide_eq_true_iff, bytes_toList, bytes_toList]
  exact ⟨fun h => ByteArray.ext (Array.ext' h), fun h => by rw [h]⟩
/-- figures are taken for what they are -/
theorem atoi_dgs {z : Int} (h0 : 0 ≤ z) (h1 : z ≤ 999999999) {s : ByteArray} (h : dgs z.toNat = numsOf s) : Lib.atoiAll s.data.toList = .ok z := by
  have hl := dgs_length 8 z.toNat (by omega)
  have e : numsOf s = s.data.toList.map fun c => (c.toNat : Int) := rfl
  have hfig : ∀ c, c ∈ s.data.toList → 48 ≤ c.toNat ∧ c.toNat ≤ 57 := by
    intro c hc
    have := dgs_fig z.toNat (c.toNat : Int) (by rw [h, e]; exact List.mem_map_of_mem hc)
    omega
  have hlen : s.data.toList.length = (dgs z.toNat).length := by rw [h, e, List.length_map]
  have hp : (0 + 1) * 10 ^ s.data.toList.length ≤ 1000000000000000000 := by
    have : 10 ^ s.data.toList.length ≤ 10 ^ 9 := Nat.pow_le_pow_right (by decide) (by omega)
    omega
  obtain ⟨u, e1, e2, e3⟩ := parse_figsM _ 0 hfig hp
  rw [← e, ← h] at e2
  have hv : (u : Int) = z := by rw [e2, show ((0 : Nat) : Int) = 0 from rfl, accN_dgs]; omega
  generalize s.data.toList = l at *
  cases l with
  | nil => simp at hlen; omega
  | cons c r =>
    have hc := hfig c List.mem_cons_self
    rw [Lib.atoiAll_plain c r (by omega) (by omega), Lib.parseMag, if_neg (by simp), e1]
    simp only [Lib.signless]
    rw [if_neg (by omega), hv]
theorem szC_no {s : ByteArray} (h : ∀ v, Lib.atoiAll s.data.toList ≠ .ok v) : szC (numsOf s) = none := by
  cases hz : szC (numsOf s) with
  | none => rfl
  | some z =>
    obtain ⟨h0, h1, h2⟩ := szC_some hz
    exact absurd (atoi_dgs h0 h1 h2) (h z)
theorem szC_ok {s : ByteArray} {v : Int} (h : Lib.atoiAll s.data.toList = .ok v) : (¬ (0 ≤ v ∧ v ≤ 999999999) → szC (numsOf s) = none) ∧
    (∀ n : Nat, v = (n : Int) → n ≤ 999999999 → (strOfNums (dgs n) ≠ s → szC (numsOf s) = none) ∧ (strOfNums (dgs n) = s → szC (numsOf s) = some v)) := by
  have hz : ∀ z, szC (numsOf s) = some z → z = v ∧ 0 ≤ z ∧ z ≤ 999999999 ∧ dgs z.toNat = numsOf s := fun z hz => by
    obtain ⟨h0, h1, h2⟩ := szC_some hz
    have h3 := atoi_dgs h0 h1 h2
    rw [h] at h3
    injection h3 with h3
    exact ⟨h3.symm, h0, h1, h2⟩
  refine ⟨fun hv => ?_, fun n hn hb => ⟨fun hne => ?_, fun he => ?_⟩⟩
  · cases hc : szC (numsOf s) with
    | none => rfl
    | some z => obtain ⟨rfl, h0, h1, _⟩ := hz z hc; exact absurd ⟨h0, h1⟩ hv
  · cases hc : szC (numsOf s) with
    | none => rfl
    | some z =>
      obtain ⟨rfl, h0, h1, h2⟩ := hz z hc
      refine absurd ?_ hne
      rw [hn, Int.toNat_natCast] at h2
      rw [h2, strOfNums_numsOf]
  · refine szC_of (by omega) (by omega) ?_
    rw [hn, Int.toNat_natCast, ← he, numsOf_strOfNums (dgs_byteM n)]
set_option maxRecDepth 100000 in
theorem misz_any (n : Int) (w : World) : Calls Tryd.prog 13 #[.int .i64 n] w fun e w' => e = .returned (.bool (decide (0 ≤ n ∧ n ≤ 999999999))) ∧ w = w' := by
  by_cases h0 : 0 ≤ n
  · by_cases h1 : n ≤ 999999999
    · have hr : decide (0 ≤ n ∧ n ≤ 999999999) = true := decide_eq_true ⟨h0, h1⟩
      rw [hr]
      go_enter Tryd.func13, Tryd.ntmps13
      go_wp2
      go_ret
      exact ⟨rfl, rfl⟩
    · have hr : decide (0 ≤ n ∧ n ≤ 999999999) = false := decide_eq_false fun h => h1 h.2
      rw [hr]
      go_enter Tryd.func13, Tryd.ntmps13
      go_wp2
      go_ret
      exact ⟨rfl, rfl⟩
  · have hr : decide (0 ≤ n ∧ n ≤ 999999999) = false := decide_eq_false fun h => h0 h.1
    rw [hr]
    go_enter Tryd.func13, Tryd.ntmps13
    go_wp2
    go_ret
    exact ⟨rfl, rfl⟩
set_option maxRecDepth 100000 in
set_option maxHeartbeats 1000000 in
theorem mrsz_any (s : ByteArray) (w : World) (hs : s.size ≤ 140737488355328) (hL : Lw w) :
    Calls Tryd.prog 42 #[.string s] w fun e w' => e = .returned (.tuple #[.int .i64 ((szC (numsOf s)).getD 0), .bool (szC (numsOf s)).isSome]) ∧ Below w.heap.size w w' := by
  have HA := Lib.hid (atoi_any s w hs hL)
  have HLW := Lib.hid hL
  clear hL hs
  go_enter Tryd.func42, Tryd.ntmps42
  go_wp2_with fail
  refine HA.out.mono ?_
  rintro e w1 ⟨he, hb1⟩
  have HB := Lib.hid hb1
  clear hb1
  rcases he with ⟨v, hv, rfl⟩ | ⟨x, q, hno, rfl⟩
  · obtain ⟨h1, h2⟩ := szC_ok hv
    have hvb := Lib.atoiAll_bounds hv
    have HSZ := Lib.hid fun W => misz_any v W
    by_cases hin : 0 ≤ v ∧ v ≤ 999999999
    · obtain ⟨n, rfl⟩ : ∃ n : Nat, v = (n : Int) := ⟨v.toNat, by omega⟩
      have hn : n ≤ 999999999 := by omega
      rw [decide_eq_true hin] at HSZ
      obtain ⟨h3, h4⟩ := h2 n rfl hn
      have HI := Lib.hid fun W hW => itoaM_any n W hn hW
      have hq := str_testM (strOfNums (dgs n)) s
      by_cases heq : strOfNums (dgs n) = s
      · have HR := Lib.hid (h4 heq)
        rw [decide_eq_true heq] at hq
        clear h1 h2 h3 h4 hv hvb heq hin
        generalize strOfNums (dgs n) = t at *
        go_wp2_with (first
          | (go_at_call 13; refine (HSZ.out _).mono ?_; rintro e w2 ⟨rfl, rfl⟩)
          | (go_at_call 25; refine (HI.out _ (HLW.out.later HB.out)).mono ?_; rintro e w3 ⟨rfl, hb3⟩; have HB3 := Lib.hid (below_step HB.out hb3); clear hb3))
        go_ret2
        exact ⟨by rw [HR.out]; rfl, HB3.out⟩
      · have HR := Lib.hid (h3 heq)
        rw [decide_eq_false heq] at hq
        clear h1 h2 h3 h4 hv hvb heq hin
        generalize strOfNums (dgs n) = t at *
        go_wp2_with (first
          | (go_at_call 13; refine (HSZ.out _).mono ?_; rintro e w2 ⟨rfl, rfl⟩)
          | (go_at_call 25; refine (HI.out _ (HLW.out.later HB.out)).mono ?_; rintro e w3 ⟨rfl, hb3⟩; have HB3 := Lib.hid (below_step HB.out hb3); clear hb3))
        go_ret2
        exact ⟨by rw [HR.out]; rfl, HB3.out⟩
    · have HR := Lib.hid (h1 hin)
      rw [decide_eq_false hin] at HSZ
      clear h1 h2 hv hvb hin
      go_wp2_with (first
        | (go_at_call 13; refine (HSZ.out _).mono ?_; rintro e w2 ⟨rfl, rfl⟩))
      go_ret2
      exact ⟨by rw [HR.out]; rfl, HB.out⟩
  · have HR := Lib.hid (szC_no hno)
    clear hno
    go_wp2
    go_ret2
    exact ⟨by rw [HR.out]; rfl, HB.out⟩
end Go.Proofs.YtahjofjblhpndaaDoor
