/- Layer 8: the reference's Number. -/
import Derived.Test.YtjdggdkdlgaocaaDoorNamF
namespace Go.Proofs.YtjdggdkdlgaocaaDoor
set_option linter.unusedVariables false
open Go.RowKit Go.Lib

theorem nval_snoc (l : List Int) (c : Int) : nval (l ++ [c]) = nval l * 10 + (c - 48) := by simp [nval, List.foldl_append]
theorem nnum_snoc (l : List Int) (c : Int) : nnum (l ++ [c]) = (nnum l && decide (48 ≤ c ∧ c ≤ 57)) := by simp [nnum]
theorem nval_fold (l : List Int) : ∀ a : Int, 0 ≤ a → nnum l = true → a * 10 ^ l.length ≤ l.foldl (fun a c => a * 10 + (c - 48)) a ∧ l.foldl (fun a c => a * 10 + (c - 48)) a < (a + 1) * 10 ^ l.length := by
  induction l with
  | nil => intro a h0 _; simp; omega
  | cons c l ih =>
    intro a h0 hn
    simp only [nnum, List.all_cons, Bool.and_eq_true, decide_eq_true_eq] at hn
    obtain ⟨hc, hl⟩ := hn
    obtain ⟨h1, h2⟩ := ih (a * 10 + (c - 48)) (by omega) hl
    simp only [List.foldl_cons, List.length_cons]
    have hp : (0 : Int) < 10 ^ l.length := Int.pow_pos (by decide)
    have e : (10 : Int) ^ (l.length + 1) = 10 * 10 ^ l.length := by rw [Int.pow_succ, Int.mul_comm]
    rw [e]
    generalize (10 : Int) ^ l.length = q at *
    generalize l.foldl (fun a c => a * 10 + (c - 48)) (a * 10 + (c - 48)) = z at *
    have m1 : a * 10 * q ≤ (a * 10 + (c - 48)) * q := Int.mul_le_mul_of_nonneg_right (by omega) (by omega)
    have m2 : (a * 10 + (c - 48) + 1) * q ≤ ((a + 1) * 10) * q := Int.mul_le_mul_of_nonneg_right (by omega) (by omega)
    constructor
    · rw [← Int.mul_assoc]; omega
    · rw [← Int.mul_assoc]; omega
theorem nval_bd {l : List Int} (h : nnum l = true) (hl : l.length ≤ 8) : 0 ≤ nval l ∧ nval l < 100000000 := by
  obtain ⟨h1, h2⟩ := nval_fold l 0 (by decide) h
  have hp : (10 : Int) ^ l.length ≤ 100000000 := by
    have : l.length = 0 ∨ l.length = 1 ∨ l.length = 2 ∨ l.length = 3 ∨ l.length = 4 ∨ l.length = 5 ∨ l.length = 6 ∨ l.length = 7 ∨ l.length = 8 := by omega
    rcases this with e | e | e | e | e | e | e | e | e <;> rw [e] <;> decide
  unfold nval
  omega
/-- the q-th word -/
theorem word_at (q : Nat) (h1 : 1 ≤ q) (h3 : q ≤ 3) : ∃ v : ByteArray, wordsC[q]? = some (.string v) ∧ numsOf v = wrd (q : Int) ∧ v.size = q + 3 := by
  have : q = 1 ∨ q = 2 ∨ q = 3 := by omega
  rcases this with rfl | rfl | rfl
  · exact ⟨⟨#[115, 101, 103, 45]⟩, rfl, by decide, rfl⟩
  · exact ⟨⟨#[104, 105, 110, 116, 45]⟩, rfl, by decide, rfl⟩
  · exact ⟨⟨#[112, 111, 105, 110, 116, 45]⟩, rfl, by decide, rfl⟩
theorem nkind_at {cs : List Int} {q : Nat} (h1 : 1 ≤ q) (h3 : q ≤ 3) : nkind cs = (q : Int) ↔ (cs.length = q + 11 ∧ cs.take (q + 3) = wrd (q : Int)) := by
  have : q = 1 ∨ q = 2 ∨ q = 3 := by omega
  unfold nkind
  rcases this with rfl | rfl | rfl
  · constructor
    · intro h
      by_cases c1 : cs.length = 12 ∧ cs.take 4 = wrd 1
      · exact c1
      · rw [if_neg c1] at h
        (repeat' split at h) <;> simp at h
    · intro h
      have h' : cs.length = 12 ∧ cs.take 4 = wrd 1 := h
      rw [if_pos h']; rfl
  · constructor
    · intro h
      by_cases c1 : cs.length = 12 ∧ cs.take 4 = wrd 1
      · rw [if_pos c1] at h; simp at h
      · rw [if_neg c1] at h
        by_cases c2 : cs.length = 13 ∧ cs.take 5 = wrd 2
        · exact c2
        · rw [if_neg c2] at h
          split at h <;> simp at h
    · intro h
      have h' : cs.length = 13 ∧ cs.take 5 = wrd 2 := h
      rw [if_neg (fun c => by have := c.1; have := h'.1; omega), if_pos h']; rfl
  · constructor
    · intro h
      by_cases c1 : cs.length = 12 ∧ cs.take 4 = wrd 1
      · rw [if_pos c1] at h; simp at h
      · rw [if_neg c1] at h
        by_cases c2 : cs.length = 13 ∧ cs.take 5 = wrd 2
        · rw [if_pos c2] at h; simp at h
        · rw [if_neg c2] at h
          by_cases c3 : cs.length = 14 ∧ cs.take 6 = wrd 3
          · exact c3
          · rw [if_neg c3] at h; simp at h
    · intro h
      have h' : cs.length = 14 ∧ cs.take 6 = wrd 3 := h
      rw [if_neg (fun c => by have := c.1; have := h'.1; omega), if_neg (fun c => by have := c.1; have := h'.1; omega), if_pos h']; rfl
theorem nkind_rng (cs : List Int) : nkind cs = 0 ∨ nkind cs = 1 ∨ nkind cs = 2 ∨ nkind cs = 3 := by unfold nkind; (repeat' split) <;> simp
theorem two_test (s v : ByteArray) (n : Nat) : ((s.extract 0 n).toList == v.toList) = decide ((numsOf s).take n = numsOf v) := by
  rw [text_test (s.extract 0 n) v.toList (numsOf v) (by rw [numsOf_toList]), numsOf_extract, List.drop_zero]
theorem numP_at {cs : List Int} {q : Nat} (h1 : 1 ≤ q) (h : nkind cs = (q : Int)) : numP cs = if nnum (cs.drop (cs.length - 8)) = true ∧ 0 < nval (cs.drop (cs.length - 8)) then ((q : Int), nval (cs.drop (cs.length - 8))) else (0, 0) := by
  unfold numP
  rw [if_neg (by omega), h]

set_option maxRecDepth 100000 in
set_option maxHeartbeats 1000000 in
theorem rnumber_any (s : ByteArray) (w : World) (hs : s.size ≤ 140737488355328) :
    Calls Tryd.prog 12 #[.string s] w fun e w' => e = .returned (.tuple #[.int .i64 (numP (numsOf s)).1, .int .i64 (numP (numsOf s)).2]) ∧ Below w.heap.size w w' := by
  have HL := Lib.hid (numsOf_length s)
  have HB0 := Lib.hid (Below.refl w.heap.size w)
  go_enter Tryd.func12, Tryd.ntmps12
  go_wp2
  go_loopw [4] (fun i wr => ∃ q : Nat, 1 ≤ q ∧ q ≤ 4 ∧ i = .int .i64 (q : Int) ∧ Hid ((∀ k : Nat, 1 ≤ k → k < q → nkind (numsOf s) ≠ (k : Int)) ∨ numP (numsOf s) = (0, 0)) ∧ Hid (Below w.heap.size w wr)) (fun i _ => 4 - (intOf i).toNat)
  case atStart => exact ⟨1, by omega, by omega, rfl, Lib.hid (Or.inl fun k h1 h2 => by omega), HB0⟩
  case round =>
    clear HB0
    obtain ⟨q, q1, q4, rfl, HP, HB⟩ := hrel
    by_cases hlt : q < 4
    · obtain ⟨v, hv, hvn, hvs⟩ := word_at q q1 (by omega)
      have HC := Lib.hid (rwords_any wr)
      have HB2 := Lib.hid (HB.out.alloc HB.out.size (.cells wordsC 9))
      have hcell : (wr.alloc (.cells wordsC 9)).cell? ⟨wr.heap.size, q, none⟩ = some (.string v) := by
        rw [cell_of_row _ _ _ wordsC 9 (0, 0) (heap_alloc_new _ _)]; exact hv
      have HVN := Lib.hid hvn
      have HKA := Lib.hid (nkind_at (cs := numsOf s) q1 (show q ≤ 3 by omega))
      have htest := two_test s v v.size
      have hvb : v.size ≤ 6 := by omega
      have HVS := Lib.hid hvs
      have HNEXT : Hid (nkind (numsOf s) ≠ (q : Int) → (∀ k : Nat, 1 ≤ k → k < q + 1 → nkind (numsOf s) ≠ (k : Int)) ∨ numP (numsOf s) = (0, 0)) := Lib.hid fun h => by
        rcases HP.out with h1 | h1
        · exact Or.inl fun k k1 k2 => by
            by_cases e : k = q
            · rw [e]; exact h
            · exact h1 k k1 (by omega)
        · exact Or.inr h1
      clear hv hvn hvs HB HP
      by_cases hl : s.size = v.size + 8
      · have hl1 : (s.size : Int) = (v.size : Int) + 8 := by omega
        by_cases ht : (numsOf s).take v.size = numsOf v
        · rw [decide_eq_true ht] at htest
          have HK : Hid (nkind (numsOf s) = (q : Int)) := Lib.hid (HKA.out.2 ⟨by rw [HL.out, hl, HVS.out], by rw [← HVS.out, ht, HVN.out]⟩)
          have HNA := Lib.hid (numP_at q1 HK.out)
          have HDR : Hid ((numsOf s).drop ((numsOf s).length - 8) = (numsOf s).drop v.size) := Lib.hid (by rw [HL.out, hl]; rfl)
          rw [HDR.out] at HNA
          clear ht HNEXT HKA HK HDR
          go_wp2_with fail
          refine HC.out.mono ?_
          rintro e w2 ⟨rfl, rfl⟩
          generalize wr.alloc (.cells wordsC 9) = w2 at *
          go_wp2
          go_loopw [6, 7] (fun a i wx => ∃ (p : Nat) (m : Int), v.size ≤ p ∧ p ≤ s.size ∧ a = .int .i64 m ∧ i = .int .i64 (p : Int) ∧ Hid (nval (((numsOf s).drop v.size).take (p - v.size)) = m ∧ nnum (((numsOf s).drop v.size).take (p - v.size)) = true) ∧ w2 = wx) (fun _ i _ => s.size - (intOf i).toNat)
          case atStart => exact ⟨v.size, 0, by omega, by omega, rfl, rfl, Lib.hid (by rw [Nat.sub_self]; exact ⟨rfl, rfl⟩), rfl⟩
          case round =>
            obtain ⟨p, m, hp1, hp2, rfl, rfl, HM, rfl⟩ := hrel
            obtain ⟨m0, m8⟩ : 0 ≤ m ∧ m < 100000000 := by
              have := nval_bd HM.out.2 (by rw [List.length_take]; omega)
              rw [HM.out.1] at this; exact this
            by_cases hlt2 : p < s.size
            · have hx := fun W => run_index_nums W s p hlt2
              have hb := numsOf_byte s p
              have HS : Hid (((numsOf s).drop v.size).take (p + 1 - v.size) = ((numsOf s).drop v.size).take (p - v.size) ++ [(numsOf s).getD p 0]) := Lib.hid (by
                have hlen : p - v.size < ((numsOf s).drop v.size).length := by rw [List.length_drop, HL.out]; omega
                rw [show p + 1 - v.size = (p - v.size) + 1 by omega, List.take_succ_eq_append_getElem hlen, List.getElem_drop]
                congr 2
                rw [List.getD_eq_getElem?_getD, List.getElem?_eq_getElem (by rw [HL.out]; exact hlt2)]
                simp [show v.size + (p - v.size) = p by omega])
              have HBAD : Hid (¬ (48 ≤ (numsOf s).getD p 0 ∧ (numsOf s).getD p 0 ≤ 57) → numP (numsOf s) = (0, 0)) := Lib.hid fun h => by
                rw [HNA.out, if_neg]
                rintro ⟨hn, _⟩
                have hlen : p - v.size < ((numsOf s).drop v.size).length := by rw [List.length_drop, HL.out]; omega
                have := List.all_eq_true.1 hn _ (List.getElem_mem hlen)
                rw [List.getElem_drop] at this
                have e : (numsOf s).getD p 0 = (numsOf s)[v.size + (p - v.size)]'(by rw [HL.out]; omega) := by
                  rw [List.getD_eq_getElem?_getD, List.getElem?_eq_getElem (by rw [HL.out]; exact hlt2)]
                  simp [show v.size + (p - v.size) = p by omega]
                rw [← e] at this
                exact h (of_decide_eq_true this)
              generalize (numsOf s).getD p 0 = y at *
              by_cases h48 : y < 48
              · have HF := Lib.hid (HBAD.out (by omega))
                clear HBAD HS HM
                go_wp2
                go_ret2
                exact ⟨by rw [HF.out]; rfl, HB2.out⟩
              by_cases h57 : 57 < y
              · have HF := Lib.hid (HBAD.out (by omega))
                clear HBAD HS HM
                go_wp2
                go_ret2
                exact ⟨by rw [HF.out]; rfl, HB2.out⟩
              · have hw8 : IntKind.u8.wrap (y - 48) = y - 48 := by simp [IntKind.wrap, IntKind.bits, IntKind.signed]; omega
                have HM2 : Hid (nval (((numsOf s).drop v.size).take (p + 1 - v.size)) = m * 10 + (y - 48) ∧ nnum (((numsOf s).drop v.size).take (p + 1 - v.size)) = true) := Lib.hid (by
                  rw [HS.out, nval_snoc, nnum_snoc, HM.out.1, HM.out.2]
                  exact ⟨rfl, by simp; omega⟩)
                clear HBAD HS HM
                go_wp2
                refine ⟨?_, by simp [intOf]; omega⟩
                first
                  | exact ⟨p + 1, m * 10 + (y - 48), by omega, by omega, rfl, by go_num, HM2, rfl⟩
                  | exact ⟨p + 1, m * 10 + (y - 48), by omega, by omega, rfl, by go_num, HM2, trivial⟩
                  | ((repeat apply Exists.intro); refine ⟨?_, rfl⟩; first | exact ⟨p + 1, m * 10 + (y - 48), by omega, by omega, rfl, by go_num, HM2, rfl⟩ | exact ⟨p + 1, m * 10 + (y - 48), by omega, by omega, rfl, by go_num, HM2, trivial⟩)
            · obtain rfl : p = s.size := by omega
              have HTK : Hid (((numsOf s).drop v.size).take (s.size - v.size) = (numsOf s).drop v.size) := Lib.hid (List.take_of_length_le (by rw [List.length_drop, HL.out]; omega))
              rw [HTK.out] at HM
              by_cases hm : 0 < m
              · have HF : Hid (numP (numsOf s) = ((q : Int), m)) := Lib.hid (by rw [HNA.out, if_pos ⟨HM.out.2, by rw [HM.out.1]; exact hm⟩, HM.out.1])
                clear HM HTK HNA
                go_wp2
                go_ret2
                exact ⟨by rw [HF.out]; rfl, HB2.out⟩
              · have HF : Hid (numP (numsOf s) = (0, 0)) := Lib.hid (by rw [HNA.out, if_neg (fun h => hm (by rw [← HM.out.1]; exact h.2))])
                clear HM HTK HNA
                go_wp2
                exact ⟨⟨q + 1, by omega, by omega, by go_num, Lib.hid (Or.inr HF.out), HB2⟩, by simp [intOf] <;> omega⟩
        · rw [decide_eq_false ht] at htest
          have HN := Lib.hid (HNEXT.out fun h => ht (by rw [HVN.out, HVS.out]; exact (HKA.out.1 h).2))
          clear ht HNEXT HKA
          go_wp2_with fail
          refine HC.out.mono ?_
          rintro e w2 ⟨rfl, rfl⟩
          generalize wr.alloc (.cells wordsC 9) = w2 at *
          go_wp2
          exact ⟨⟨q + 1, by omega, by omega, by go_num, HN, HB2⟩, by simp [intOf] <;> omega⟩
      · have hl1 : ¬ ((s.size : Int) = (v.size : Int) + 8) := by omega
        have HN := Lib.hid (HNEXT.out fun h => hl (by rw [HVS.out, ← HL.out]; exact (HKA.out.1 h).1))
        clear HNEXT HKA htest
        go_wp2_with fail
        refine HC.out.mono ?_
        rintro e w2 ⟨rfl, rfl⟩
        generalize wr.alloc (.cells wordsC 9) = w2 at *
        go_wp2
        exact ⟨⟨q + 1, by omega, by omega, by go_num, HN, HB2⟩, by simp [intOf] <;> omega⟩
    · obtain rfl : q = 4 := by omega
      have HF : Hid (numP (numsOf s) = (0, 0)) := Lib.hid (by
        rcases HP.out with h | h
        · have h1 := h 1 (by decide) (by decide)
          have h2 := h 2 (by decide) (by decide)
          have h3 := h 3 (by decide) (by decide)
          rcases nkind_rng (numsOf s) with e | e | e | e
          · unfold numP; rw [if_pos e]
          · exact absurd e h1
          · exact absurd e h2
          · exact absurd e h3
        · exact h)
      go_wp2
      go_ret2
      exact ⟨by rw [HF.out]; rfl, HB.out⟩
end Go.Proofs.YtjdggdkdlgaocaaDoor
