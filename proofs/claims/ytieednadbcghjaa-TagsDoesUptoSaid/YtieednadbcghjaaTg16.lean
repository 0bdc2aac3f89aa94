/- Layer 19, the reference: in, Add, Row, both, Others, Alive; Arguments of layer 19, opened: numbers, places, words. (cut out of EntI); Arguments of layer 19, opened: entries of names. (gen_enti.py); Layer 21, the laws' arguments, opened: rows of names' entries -/
import Derived.Test.YtieednadbcghjaaTg1
import Derived.Test.YtieednadbcghjaaTg3
import Derived.Test.YtieednadbcghjaaTg8
import Derived.Test.YtieednadbcghjaaTg10
import Derived.Lib.SmallJoins
set_option linter.unusedSimpArgs false
set_option linter.unusedVariables false
namespace Go.Proofs.Ytieednadbcghjaa
set_option linter.unusedVariables false
open Go.RowKit Go.Lib

set_option maxRecDepth 100000 in
set_option maxHeartbeats 2000000 in
theorem radd19_any (p : Option Addr) (m c : Nat) (L : List Int) (n : Int) (w : World) (h : Gs encI w p m L) (hm : m ≤ 2097152) :
    Calls Try.prog 41 #[.slice p m c, .int .i64 n] w fun e w' => ∃ v, e = .returned v ∧ Gw encI w' w.heap.size v (putI L n) ∧ Below w.heap.size w w' := by
  have H := Lib.hid h
  have HL := Lib.hid h.1
  have HB0 := Lib.hid (Below.refl w.heap.size w)
  have HO0 := Lib.hid (Gw.nil encI w w.heap.size)
  have HLN : Hid ((putI L n).length ≤ 2097153) := Lib.hid (Nat.le_trans (putIR_length n L false) (by rw [h.1]; simp; omega))
  clear h
  go_enter Try.func41, Try.ntmps41
  go_wp2
  go_loopw [5, 6, 7] (fun v t i wr => ∃ (k : Nat) (o : List Int) (tb : Bool), k ≤ m ∧ i = .int .i64 (k : Int) ∧ t = .bool tb ∧ Hid (Gw encI wr w.heap.size v o) ∧ Hid (o ++ putIR n (L.drop k) tb = putI L n) ∧ Hid (Below w.heap.size w wr)) (fun _ _ i _ => m - (intOf i).toNat)
  case atStart => exact ⟨0, [], false, by omega, rfl, rfl, HO0, Lib.hid (by simp [putI]), HB0⟩
  case round =>
    clear HO0 HB0
    obtain ⟨k, o, tb, hk, rfl, rfl, HO, HE, HB⟩ := hrel
    by_cases hlt : k < m
    · obtain ⟨b, off, rfl, c0⟩ := H.out.it k hlt
      have HS := Lib.hid (putI_drop (L := L) (k := k) (by rw [HL.out]; exact hlt) n tb)
      have hkn : (k : Int) < (m : Int) := by omega
      have hk0 : (0 : Int) ≤ (k : Int) := by omega
      generalize L.getD k 0 = y at *
      have HK : Hid (∀ W, Below w.heap.size w W → W.cell? ⟨b, off + k, none⟩ = some (.int .i64 y)) := Lib.hid fun W hW => by
        rw [hW.cell (World.block_lt_of_cell? w _ c0)]; exact c0
      clear c0
      have c0 := HK.out _ HB.out
      by_cases h1 : n ≤ y
      · by_cases h2 : tb = false ∧ n < y
        · obtain ⟨rfl, h3⟩ := h2
          have HF : Hid ((o ++ [n]) ++ [y] ++ putIR n (L.drop (k + 1)) true = putI L n) := Lib.hid (by have := HE.out; rw [HS.out, if_pos (by simp [h1, h3]), decide_eq_true h1] at this; rw [← this]; simp)
          have HZ1 : Hid (o.length + 1 ≤ 2097216) := Lib.hid (by have h2 := HLN.out; rw [← HF.out] at h2; simp at h2; omega)
          have HZ2 : Hid ((o ++ [n]).length + 1 ≤ 2097216) := Lib.hid (by have h2 := HLN.out; rw [← HF.out] at h2; simp at h2 ⊢; omega)
          clear HS HE
          have HN1 := Lib.hid (Gs.one encI wr n #[.int .i64 n] rfl 3 (0, 0))
          have HL1 := Lib.hid (below_allocF HB.out (.cells #[.int .i64 n] 3))
          have HA1 := Lib.hid (HO.out.alloc (.cells #[.int .i64 n] 3))
          go_wp2_with (first
            | (refine wpList_append_gen encI rfl (.tmp 30) (.tmp 32) 34 rfl Try.underlying34 (.int .i64 0) 8 infoI rfl (by decide) w.heap.size _ _ rfl HA1.out _ 1 1 [n] rfl HN1.out (fun h => by cases h) HZ1.out HL1.out.size ?_; intro v1 w1 ho1 hg1; have HO1 := Lib.hid ho1; have HB1 : Hid (Below w.heap.size w w1) := Lib.hid (below_new_gw HL1.out HA1.out hg1 HL1.out.size); clear ho1 hg1 c0; have c0 := HK.out _ HB1.out; have HN2 := Lib.hid (Gs.one encI w1 y #[.int .i64 y] rfl 3 (0, 0)); have HL2 := Lib.hid (below_allocF HB1.out (.cells #[.int .i64 y] 3)); have HA2 := Lib.hid (HO1.out.alloc (.cells #[.int .i64 y] 3)))
            | (refine wpList_append_gen encI rfl (.tmp 34) (.tmp 39) 34 rfl Try.underlying34 (.int .i64 0) 8 infoI rfl (by decide) w.heap.size _ _ rfl HA2.out _ 1 1 [y] rfl HN2.out (fun h => by cases h) HZ2.out HL2.out.size ?_; intro v2 w2 ho2 hg2; have HO2 := Lib.hid ho2; have HB2 : Hid (Below w.heap.size w w2) := Lib.hid (below_new_gw HL2.out HA2.out hg2 HL2.out.size); clear ho2 hg2))
          refine ⟨?_, by simp [intOf] <;> omega⟩
          first
            | exact ⟨k + 1, _, true, by omega, by go_num, rfl, HO2, HF, HB2⟩
            | ((repeat apply Exists.intro); refine ⟨?_, rfl⟩; exact ⟨k + 1, _, true, by omega, by go_num, rfl, HO2, HF, HB2⟩)
        · have HF : Hid (o ++ [y] ++ putIR n (L.drop (k + 1)) true = putI L n) := Lib.hid (by
            have := HE.out
            rw [HS.out, if_neg (fun h => h2 ⟨h.1, h.2.2⟩), decide_eq_true h1] at this
            rw [← this]; simp)
          have HZ1 : Hid (o.length + 1 ≤ 2097216) := Lib.hid (by have h2 := HLN.out; rw [← HF.out] at h2; simp at h2; omega)
          have HN1 := Lib.hid (Gs.one encI wr y #[.int .i64 y] rfl 3 (0, 0))
          have HL1 := Lib.hid (below_allocF HB.out (.cells #[.int .i64 y] 3))
          have HA1 := Lib.hid (HO.out.alloc (.cells #[.int .i64 y] 3))
          clear HS HE
          cases tb
          · have h3 : ¬ n < y := fun h => h2 ⟨rfl, h⟩
            clear h2
            go_wp2_with (refine wpList_append_gen encI rfl (.tmp 34) (.tmp 39) 34 rfl Try.underlying34 (.int .i64 0) 8 infoI rfl (by decide) w.heap.size _ _ rfl HA1.out _ 1 1 [y] rfl HN1.out (fun h => by cases h) HZ1.out HL1.out.size ?_; intro v2 w2 ho2 hg2; have HO2 := Lib.hid ho2; have HB2 : Hid (Below w.heap.size w w2) := Lib.hid (below_new_gw HL1.out HA1.out hg2 HL1.out.size); clear ho2 hg2)
            refine ⟨?_, by simp [intOf] <;> omega⟩
            first
              | exact ⟨k + 1, _, true, by omega, by go_num, rfl, HO2, HF, HB2⟩
              | ((repeat apply Exists.intro); refine ⟨?_, rfl⟩; exact ⟨k + 1, _, true, by omega, by go_num, rfl, HO2, HF, HB2⟩)
          · clear h2
            go_wp2_with (refine wpList_append_gen encI rfl (.tmp 34) (.tmp 39) 34 rfl Try.underlying34 (.int .i64 0) 8 infoI rfl (by decide) w.heap.size _ _ rfl HA1.out _ 1 1 [y] rfl HN1.out (fun h => by cases h) HZ1.out HL1.out.size ?_; intro v2 w2 ho2 hg2; have HO2 := Lib.hid ho2; have HB2 : Hid (Below w.heap.size w w2) := Lib.hid (below_new_gw HL1.out HA1.out hg2 HL1.out.size); clear ho2 hg2)
            refine ⟨?_, by simp [intOf] <;> omega⟩
            first
              | exact ⟨k + 1, _, true, by omega, by go_num, rfl, HO2, HF, HB2⟩
              | ((repeat apply Exists.intro); refine ⟨?_, rfl⟩; exact ⟨k + 1, _, true, by omega, by go_num, rfl, HO2, HF, HB2⟩)
      · have HF : Hid (o ++ [y] ++ putIR n (L.drop (k + 1)) tb = putI L n) := Lib.hid (by
          have := HE.out
          rw [HS.out, if_neg (fun h => h1 h.2.1), decide_eq_false h1, Bool.or_false] at this
          rw [← this]; simp)
        have HZ1 : Hid (o.length + 1 ≤ 2097216) := Lib.hid (by have h2 := HLN.out; rw [← HF.out] at h2; simp at h2; omega)
        have HN1 := Lib.hid (Gs.one encI wr y #[.int .i64 y] rfl 3 (0, 0))
        have HL1 := Lib.hid (below_allocF HB.out (.cells #[.int .i64 y] 3))
        have HA1 := Lib.hid (HO.out.alloc (.cells #[.int .i64 y] 3))
        clear HS HE
        cases tb
        all_goals
          go_wp2_with (refine wpList_append_gen encI rfl (.tmp 34) (.tmp 39) 34 rfl Try.underlying34 (.int .i64 0) 8 infoI rfl (by decide) w.heap.size _ _ rfl HA1.out _ 1 1 [y] rfl HN1.out (fun h => by cases h) HZ1.out HL1.out.size ?_; intro v2 w2 ho2 hg2; have HO2 := Lib.hid ho2; have HB2 : Hid (Below w.heap.size w w2) := Lib.hid (below_new_gw HL1.out HA1.out hg2 HL1.out.size); clear ho2 hg2)
          refine ⟨?_, by simp [intOf] <;> omega⟩
          first
            | exact ⟨k + 1, _, _, by omega, by go_num, rfl, HO2, HF, HB2⟩
            | ((repeat apply Exists.intro); refine ⟨?_, rfl⟩; exact ⟨k + 1, _, _, by omega, by go_num, rfl, HO2, HF, HB2⟩)
    · obtain rfl : k = m := by omega
      cases tb
      · have HF : Hid (o ++ [n] = putI L n) := Lib.hid (by
          have h := HE.out
          rw [List.drop_of_length_le (by rw [HL.out]; omega)] at h
          exact h)
        have HZ1 : Hid (o.length + 1 ≤ 2097216) := Lib.hid (by have h2 := HLN.out; rw [← HF.out] at h2; simp at h2; omega)
        have HN1 := Lib.hid (Gs.one encI wr n #[.int .i64 n] rfl 3 (0, 0))
        have HL1 := Lib.hid (below_allocF HB.out (.cells #[.int .i64 n] 3))
        have HA1 := Lib.hid (HO.out.alloc (.cells #[.int .i64 n] 3))
        clear HE
        go_wp2_with (refine wpList_append_gen encI rfl (.tmp 43) (.tmp 45) 34 rfl Try.underlying34 (.int .i64 0) 8 infoI rfl (by decide) w.heap.size _ _ rfl HA1.out _ 1 1 [n] rfl HN1.out (fun h => by cases h) HZ1.out HL1.out.size ?_; intro v2 w2 ho2 hg2; have HO2 := Lib.hid ho2; have HB2 : Hid (Below w.heap.size w w2) := Lib.hid (below_new_gw HL1.out HA1.out hg2 HL1.out.size); clear ho2 hg2)
        go_ret
        exact ⟨_, rfl, by rw [← HF.out]; exact HO2.out, HB2.out⟩
      · have HF : Hid (o = putI L n) := Lib.hid (by
          have h := HE.out
          rw [List.drop_of_length_le (by rw [HL.out]; omega)] at h
          simpa [putIR] using h)
        go_wp2
        go_ret
        exact ⟨_, rfl, by rw [← HF.out]; exact HO.out, HB.out⟩

set_option maxRecDepth 100000 in
theorem rin19_any (p : Option Addr) (m c : Nat) (L : List Int) (n : Int) (w : World) (h : Gs encI w p m L) (hm : m ≤ 2097152) :
    Calls Try.prog 46 #[.slice p m c, .int .i64 n] w fun e w' => e = .returned (.bool (decide (n ∈ L))) ∧ w' = w := by
  have H := Lib.hid h
  have HL := Lib.hid h.1
  clear h
  go_enter Try.func46, Try.ntmps46
  go_wp2
  go_loopw [5] (fun i wr => ∃ k : Nat, k ≤ m ∧ i = .int .i64 k ∧ Hid (n ∉ L.take k) ∧ wr = w) (fun i _ => m - (intOf i).toNat)
  case atStart => exact ⟨0, Nat.zero_le _, rfl, Lib.hid (by simp), rfl⟩
  case round =>
    obtain ⟨k, hk, rfl, HNO, rfl⟩ := hrel
    by_cases hlt : k < m
    · obtain ⟨b, off, rfl, c0⟩ := H.out.it k hlt
      have hkn : (k : Int) < (m : Int) := by omega
      have hk0 : (0 : Int) ≤ (k : Int) := by omega
      have HKL : Hid (k < L.length) := Lib.hid (by rw [HL.out]; exact hlt)
      have HG : Hid (L.getD k 0 ∈ L) := Lib.hid (by rw [List.getD_eq_getElem?_getD, List.getElem?_eq_getElem HKL.out]; exact List.getElem_mem _)
      have HT : Hid (L.take (k + 1) = L.take k ++ [L.getD k 0]) := Lib.hid (by rw [List.take_succ_eq_append_getElem HKL.out, List.getD_eq_getElem?_getD, List.getElem?_eq_getElem HKL.out]; rfl)
      generalize L.getD k 0 = y at *
      by_cases hy : y = n
      · have heq : (y == n) = true := by simpa using hy
        have HM : Hid (n ∈ L) := Lib.hid (by rw [← hy]; exact HG.out)
        clear hy
        go_wp2
        go_ret
        exact ⟨by rw [decide_eq_true HM.out]; rfl, rfl⟩
      · have heq : (y == n) = false := by simpa using hy
        have HNO2 : Hid (n ∉ L.take (k + 1)) := Lib.hid (by
          rw [HT.out, List.mem_append]
          rintro (h | h)
          · exact HNO.out h
          · rw [List.mem_singleton] at h
            exact hy h.symm)
        clear hy
        go_wp2
        exact ⟨⟨k + 1, by omega, by go_num, HNO2, by first | rfl | trivial⟩, by simp [intOf] <;> omega⟩
    · obtain rfl : k = m := by omega
      have HM : Hid (n ∉ L) := Lib.hid (by have h1 := HNO.out; rwa [List.take_of_length_le (by rw [HL.out]; exact Nat.le_refl _)] at h1)
      go_wp2
      go_ret
      exact ⟨by rw [decide_eq_false HM.out]; rfl, rfl⟩
theorem fold_takeI {L : List Int} {k : Nat} (h : k < L.length) : (L.take (k + 1)).foldl putI [] = putI ((L.take k).foldl putI []) (L.getD k 0) := by
  rw [List.take_succ_eq_append_getElem h, List.foldl_append, List.getD_eq_getElem?_getD, List.getElem?_eq_getElem h]
  rfl
theorem fold_lenI (L : List Int) : (L.foldl putI []).length ≤ L.length := rowI_length L
set_option maxRecDepth 100000 in
set_option maxHeartbeats 1000000 in
theorem rrow19_any (p : Option Addr) (m c : Nat) (L : List Int) (w : World) (h : Gs encI w p m L) (hm : m ≤ 2097152) :
    Calls Try.prog 42 #[.slice p m c] w fun e w' => ∃ v, e = .returned v ∧ Gw encI w' w.heap.size v (rowI L) ∧ Below w.heap.size w w' := by
  have H := Lib.hid h
  have HL := Lib.hid h.1
  have HA := Lib.hid fun (q : Option Addr) (n d : Nat) (M : List Int) (y : Int) W (hW : Gs encI W q n M) (hn : n ≤ 2097152) => radd19_any q n d M y W hW hn
  clear h
  go_enter Try.func42, Try.ntmps42
  go_wp2
  go_loopw [3, 4] (fun v i wr => ∃ (k : Nat) (q : Option Addr) (n d : Nat), k ≤ m ∧ i = .int .i64 (k : Int) ∧ v = .slice q n d ∧ Hid (Gw encI wr w.heap.size (.slice q n d) ((L.take k).foldl putI [])) ∧ Hid (Below w.heap.size w wr)) (fun _ i _ => m - (intOf i).toNat)
  case atStart => exact ⟨0, none, 0, 0, by omega, rfl, rfl, Lib.hid (Gw.nil _ _ _), Lib.hid (Below.refl _ _)⟩
  case round =>
    obtain ⟨k, q, n, d, hk, rfl, rfl, HO, HB⟩ := hrel
    by_cases hlt : k < m
    · obtain ⟨b, off, rfl, c0⟩ := (H.out.later HB.out).it k hlt
      have hkn : (k : Int) < (m : Int) := by omega
      have hk0 : (0 : Int) ≤ (k : Int) := by omega
      have HT := Lib.hid (fold_takeI (L := L) (k := k) (by rw [HL.out]; exact hlt))
      have hnn : n ≤ 2097152 := by
        have h1 := HO.out.len
        have h2 := fold_lenI (L.take k)
        rw [List.length_take, HL.out] at h2
        omega
      have HC := Lib.hid fun y => HA.out q n d _ y wr HO.out.gs hnn
      generalize L.getD k 0 = y at *
      clear hnn
      go_wp2_with (go_at_call 41; refine (HC.out _).mono ?_; rintro e w2 ⟨v2, rfl, ho2, hb2⟩; rw [← HT.out] at ho2; obtain ⟨q2, d2, hv2, _⟩ := ho2.open; obtain ⟨n2, hn2⟩ : ∃ x, ((L.take (k + 1)).foldl putI []).length = x := ⟨_, rfl⟩; rw [hn2] at hv2; subst hv2; have HO2 := Lib.hid (ho2.mono HB.out.size); have HB2 := Lib.hid (below_step HB.out hb2); clear ho2 hb2 hn2)
      exact ⟨⟨k + 1, q2, n2, d2, by omega, by go_num, rfl, HO2, HB2⟩, by simp [intOf] <;> omega⟩
    · obtain rfl : k = m := by omega
      have HE : Hid ((L.take k).foldl putI [] = rowI L) := Lib.hid (by rw [List.take_of_length_le (by rw [HL.out]; exact Nat.le_refl _)]; rfl)
      rw [HE.out] at HO
      go_wp2
      go_ret
      exact ⟨_, rfl, HO.out, HB.out⟩
theorem both_step {L b : List Int} {k : Nat} (h : k < L.length) : ((L.take (k + 1)).filter fun x => decide (x ∈ b)).foldl putI [] = if L.getD k 0 ∈ b then putI (((L.take k).filter fun x => decide (x ∈ b)).foldl putI []) (L.getD k 0) else ((L.take k).filter fun x => decide (x ∈ b)).foldl putI [] := by
  rw [List.take_succ_eq_append_getElem h, List.filter_append, List.foldl_append, List.getD_eq_getElem?_getD, List.getElem?_eq_getElem h]
  simp only [Option.getD_some]
  by_cases hx : L[k] ∈ b
  · rw [if_pos hx, List.filter_cons_of_pos (by simpa using hx)]
    rfl
  · rw [if_neg hx, List.filter_cons_of_neg (by simpa using hx)]
    rfl
theorem both_len (L b : List Int) (k : Nat) : (((L.take k).filter fun x => decide (x ∈ b)).foldl putI []).length ≤ L.length := by
  refine Nat.le_trans (fold_lenI _) (Nat.le_trans (List.length_filter_le _ _) ?_)
  rw [List.length_take]
  omega
set_option maxRecDepth 100000 in
set_option maxHeartbeats 1000000 in
theorem rboth19_any (p : Option Addr) (m c : Nat) (L : List Int) (p2 : Option Addr) (m2 c2 : Nat) (L2 : List Int) (w : World) (h : Gs encI w p m L) (h2 : Gs encI w p2 m2 L2) (hm : m ≤ 2097152) (hm2 : m2 ≤ 2097152) :
    Calls Try.prog 45 #[.slice p m c, .slice p2 m2 c2] w fun e w' => ∃ v, e = .returned v ∧ Gw encI w' w.heap.size v (bothI L L2) ∧ Below w.heap.size w w' := by
  have H := Lib.hid h
  have HL := Lib.hid h.1
  have HA := Lib.hid fun (q : Option Addr) (n d : Nat) (M : List Int) (y : Int) W (hW : Gs encI W q n M) (hn : n ≤ 2097152) => radd19_any q n d M y W hW hn
  have HI := Lib.hid fun W y (hW : Below w.heap.size w W) => rin19_any p2 m2 c2 L2 y W (h2.later hW) hm2
  clear h h2
  go_enter Try.func45, Try.ntmps45
  go_wp2
  go_loopw [5, 6] (fun v i wr => ∃ (k : Nat) (q : Option Addr) (n d : Nat), k ≤ m ∧ i = .int .i64 (k : Int) ∧ v = .slice q n d ∧ Hid (Gw encI wr w.heap.size (.slice q n d) (((L.take k).filter fun x => decide (x ∈ L2)).foldl putI [])) ∧ Hid (Below w.heap.size w wr)) (fun _ i _ => m - (intOf i).toNat)
  case atStart => exact ⟨0, none, 0, 0, by omega, rfl, rfl, Lib.hid (Gw.nil _ _ _), Lib.hid (Below.refl _ _)⟩
  case round =>
    obtain ⟨k, q, n, d, hk, rfl, rfl, HO, HB⟩ := hrel
    by_cases hlt : k < m
    · obtain ⟨b, off, rfl, c0⟩ := (H.out.later HB.out).it k hlt
      have hkn : (k : Int) < (m : Int) := by omega
      have hk0 : (0 : Int) ≤ (k : Int) := by omega
      have HT := Lib.hid (both_step (L := L) (b := L2) (k := k) (by rw [HL.out]; exact hlt))
      have hnn : n ≤ 2097152 := by
        have h1 := HO.out.len
        have h2 := both_len L L2 k
        rw [HL.out] at h2
        omega
      have HC := Lib.hid fun y => HA.out q n d _ y wr HO.out.gs hnn
      have HLB : Hid ((((L.take (k + 1)).filter fun x => decide (x ∈ L2)).foldl putI []).length ≤ 2097152) := Lib.hid (by have h2 := both_len L L2 (k + 1); rw [HL.out] at h2; omega)
      generalize L.getD k 0 = y at *
      have HIY := Lib.hid (HI.out wr y HB.out)
      clear hnn
      by_cases hy : y ∈ L2
      · have hdy : decide (y ∈ L2) = true := by simpa using hy
        rw [if_pos hy] at HT
        rw [hdy] at HIY
        clear hy hdy
        go_wp2_with (first
          | (go_at_call 46; refine HIY.out.mono ?_; rintro e w1 ⟨rfl, rfl⟩)
          | (go_at_call 41; refine (HC.out _).mono ?_; rintro e w2 ⟨v2, rfl, ho2, hb2⟩; rw [← HT.out] at ho2; obtain ⟨q2, d2, hv2, _⟩ := ho2.open; obtain ⟨n2, hn2⟩ : ∃ x, (((L.take (k + 1)).filter fun x => decide (x ∈ L2)).foldl putI []).length = x := ⟨_, rfl⟩; rw [hn2] at hv2; subst hv2; have HO2 := Lib.hid (ho2.mono HB.out.size); have HB2 := Lib.hid (below_step HB.out hb2); clear ho2 hb2 hn2))
        exact ⟨⟨k + 1, q2, n2, d2, by omega, by go_num, rfl, HO2, HB2⟩, by simp [intOf] <;> omega⟩
      · have hdy : decide (y ∈ L2) = false := by simpa using hy
        rw [if_neg hy] at HT
        rw [hdy] at HIY
        rw [← HT.out] at HO
        clear hy hdy
        go_wp2_with (go_at_call 46; refine HIY.out.mono ?_; rintro e w1 ⟨rfl, rfl⟩)
        exact ⟨⟨k + 1, q, n, d, by omega, by go_num, rfl, HO, HB⟩, by simp [intOf] <;> omega⟩
    · obtain rfl : k = m := by omega
      have HE : Hid (((L.take k).filter fun x => decide (x ∈ L2)).foldl putI [] = bothI L L2) := Lib.hid (by rw [List.take_of_length_le (by rw [HL.out]; exact Nat.le_refl _)]; rfl)
      rw [HE.out] at HO
      go_wp2
      go_ret
      exact ⟨_, rfl, HO.out, HB.out⟩
end Go.Proofs.Ytieednadbcghjaa

namespace Go.Proofs.Ytieednadbcghjaa
set_option linter.unusedVariables false
open Go.RowKit Go.Lib Go.ChangeShapes Go.WideShapes Go.ChangeAt

theorem cutEn {α : Type} (cs : List α) (h : cs.length = 38) : cs = (cs.drop 0).take 32 ++ ((cs.drop 32).take 1 ++ ((cs.drop 33).take 1 ++ ((cs.drop 34).take 3 ++ ((cs.drop 37).take 1)))) := by
  have e (a b : Nat) : cs.drop a = (cs.drop a).take b ++ cs.drop (a + b) := by
    rw [← List.drop_drop, List.take_append_drop]
  have hz : cs.drop 37 = (cs.drop 37).take 1 := by rw [List.take_of_length_le (by rw [List.length_drop]; omega)]
  have h0 := e 0 32
  have h1 := e 32 1
  have h2 := e 33 1
  have h3 := e 34 3
  simp only [Nat.reduceAdd] at h0 h1 h2 h3
  rw [← hz, ← h3, ← h2, ← h1, ← h0, List.drop_zero]
theorem cutTn {α : Type} (cs : List α) (h : cs.length = 38) : cs = (cs.drop 0).take 1 ++ ((cs.drop 1).take 32 ++ ((cs.drop 33).take 1 ++ ((cs.drop 34).take 3 ++ ((cs.drop 37).take 1)))) := by
  have e (a b : Nat) : cs.drop a = (cs.drop a).take b ++ cs.drop (a + b) := by
    rw [← List.drop_drop, List.take_append_drop]
  have hz : cs.drop 37 = (cs.drop 37).take 1 := by rw [List.take_of_length_le (by rw [List.length_drop]; omega)]
  have h0 := e 0 1
  have h1 := e 1 32
  have h2 := e 33 1
  have h3 := e 34 3
  simp only [Nat.reduceAdd] at h0 h1 h2 h3
  rw [← hz, ← h3, ← h2, ← h1, ← h0, List.drop_zero]
theorem cutWd {α : Type} (cs : List α) (h : cs.length = 39) : cs = (cs.drop 0).take 1 ++ ((cs.drop 1).take 1 ++ ((cs.drop 2).take 32 ++ ((cs.drop 34).take 1 ++ ((cs.drop 35).take 1 ++ ((cs.drop 36).take 3))))) := by
  have e (a b : Nat) : cs.drop a = (cs.drop a).take b ++ cs.drop (a + b) := by
    rw [← List.drop_drop, List.take_append_drop]
  have hz : cs.drop 36 = (cs.drop 36).take 3 := by rw [List.take_of_length_le (by rw [List.length_drop]; omega)]
  have h0 := e 0 1
  have h1 := e 1 1
  have h2 := e 2 32
  have h3 := e 34 1
  have h4 := e 35 1
  simp only [Nat.reduceAdd] at h0 h1 h2 h3 h4
  rw [← hz, ← h4, ← h3, ← h2, ← h1, ← h0, List.drop_zero]
section
variable {H : Type} {enc : TypeId × Value → H} {W : World} {base : Nat} {held : Bool}
theorem trod_structE3 {P : Program} {spare : Nat → Bool} {t : TypeId} {f0 f1 f2 : Field} {fuel : Nat} {cs : List Value} {x : DataW H × List MemPlace} (ht : P.underlying t = some (.struct #[f0, f1, f2])) (h : DataW.trod enc P W base spare held fuel t cs = some x) :
    ∃ y0 y1 y2 n, x.1 = .agg [y0.1, y1.1, y2.1] ∧ cs.length = P.cellsOf t ∧ DataW.trod enc P W base spare held n f0.type ((cs.drop f0.offset).take (P.cellsOf f0.type)) = some y0 ∧ DataW.trod enc P W base spare held n f1.type ((cs.drop f1.offset).take (P.cellsOf f1.type)) = some y1 ∧ DataW.trod enc P W base spare held n f2.type ((cs.drop f2.offset).take (P.cellsOf f2.type)) = some y2 := by
  obtain ⟨xs, n, _, rfl, hl, hlen, hf⟩ := DataW.trod_struct ht h
  match xs, hlen with
  | [y0, y1, y2], _ => exact ⟨y0, y1, y2, n, by simp, hl, by simpa using hf 0 f0 rfl, by simpa using hf 1 f1 rfl, by simpa using hf 2 f2 rfl⟩
theorem trod_structE5 {P : Program} {spare : Nat → Bool} {t : TypeId} {f0 f1 f2 f3 f4 : Field} {fuel : Nat} {cs : List Value} {x : DataW H × List MemPlace} (ht : P.underlying t = some (.struct #[f0, f1, f2, f3, f4])) (h : DataW.trod enc P W base spare held fuel t cs = some x) :
    ∃ y0 y1 y2 y3 y4 n, x.1 = .agg [y0.1, y1.1, y2.1, y3.1, y4.1] ∧ cs.length = P.cellsOf t ∧ DataW.trod enc P W base spare held n f0.type ((cs.drop f0.offset).take (P.cellsOf f0.type)) = some y0 ∧ DataW.trod enc P W base spare held n f1.type ((cs.drop f1.offset).take (P.cellsOf f1.type)) = some y1 ∧ DataW.trod enc P W base spare held n f2.type ((cs.drop f2.offset).take (P.cellsOf f2.type)) = some y2 ∧ DataW.trod enc P W base spare held n f3.type ((cs.drop f3.offset).take (P.cellsOf f3.type)) = some y3 ∧ DataW.trod enc P W base spare held n f4.type ((cs.drop f4.offset).take (P.cellsOf f4.type)) = some y4 := by
  obtain ⟨xs, n, _, rfl, hl, hlen, hf⟩ := DataW.trod_struct ht h
  match xs, hlen with
  | [y0, y1, y2, y3, y4], _ => exact ⟨y0, y1, y2, y3, y4, n, by simp, hl, by simpa using hf 0 f0 rfl, by simpa using hf 1 f1 rfl, by simpa using hf 2 f2 rfl, by simpa using hf 3 f3 rfl, by simpa using hf 4 f4 rfl⟩
theorem trod_structE6 {P : Program} {spare : Nat → Bool} {t : TypeId} {f0 f1 f2 f3 f4 f5 : Field} {fuel : Nat} {cs : List Value} {x : DataW H × List MemPlace} (ht : P.underlying t = some (.struct #[f0, f1, f2, f3, f4, f5])) (h : DataW.trod enc P W base spare held fuel t cs = some x) :
    ∃ y0 y1 y2 y3 y4 y5 n, x.1 = .agg [y0.1, y1.1, y2.1, y3.1, y4.1, y5.1] ∧ cs.length = P.cellsOf t ∧ DataW.trod enc P W base spare held n f0.type ((cs.drop f0.offset).take (P.cellsOf f0.type)) = some y0 ∧ DataW.trod enc P W base spare held n f1.type ((cs.drop f1.offset).take (P.cellsOf f1.type)) = some y1 ∧ DataW.trod enc P W base spare held n f2.type ((cs.drop f2.offset).take (P.cellsOf f2.type)) = some y2 ∧ DataW.trod enc P W base spare held n f3.type ((cs.drop f3.offset).take (P.cellsOf f3.type)) = some y3 ∧ DataW.trod enc P W base spare held n f4.type ((cs.drop f4.offset).take (P.cellsOf f4.type)) = some y4 ∧ DataW.trod enc P W base spare held n f5.type ((cs.drop f5.offset).take (P.cellsOf f5.type)) = some y5 := by
  obtain ⟨xs, n, _, rfl, hl, hlen, hf⟩ := DataW.trod_struct ht h
  match xs, hlen with
  | [y0, y1, y2, y3, y4, y5], _ => exact ⟨y0, y1, y2, y3, y4, y5, n, by simp, hl, by simpa using hf 0 f0 rfl, by simpa using hf 1 f1 rfl, by simpa using hf 2 f2 rfl, by simpa using hf 3 f3 rfl, by simpa using hf 4 f4 rfl, by simpa using hf 5 f5 rfl⟩
theorem open_intI (fuel : Nat) (cs : List Value) (y : DataW H × List MemPlace) (h : DataW.trod enc Try.prog W base (fun _ => true) held fuel encI.t cs = some y) : ∃ q : Int, cs = encI.f q ∧ (-9223372036854775808 ≤ q ∧ q ≤ 9223372036854775807) ∧ 1 ≤ Rows.uptoBulk y.1 := by
  obtain ⟨z, hz, hx, hw⟩ := DataW.trod_int Try.underlying3 h
  subst hz
  refine ⟨z, rfl, wf_i64 hw, ?_⟩
  subst hx
  simp [Rows.uptoBulk]
/-- a row of numbers -/
theorem open_ints {fuel : Nat} {a0 : Option Addr} {len cap : Nat} {x : DataW H × List MemPlace}
    (h : DataW.trod enc Try.prog W base (fun _ => true) held fuel 34 [.slice a0 len cap] = some x) :
    ∃ L, Is W (.slice a0 len cap) L ∧ (∀ q ∈ L, -9223372036854775808 ≤ q ∧ q ≤ 9223372036854775807) ∧ L.length + 1 ≤ Rows.uptoBulk x.1 := by
  obtain ⟨hl0, hm0, hp0, L, hL, hLo, hLs⟩ := open_gs encI Try.underlying34 (by kernel_rfl) (fun _ => 1) (fun q => -9223372036854775808 ≤ q ∧ q ≤ 9223372036854775807) open_intI h
  have h1 := sum_len (sz := fun _ : Int => 1) (fun _ => Nat.le_refl _) L
  have h2 := hL.len
  subst h2
  exact ⟨L, ⟨a0, cap, rfl, hL, hp0, hl0, hm0⟩, hLo, by omega⟩
set_option maxRecDepth 100000 in
theorem open_locE {fuel : Nat} {cs : List Value} {x : DataW H × List MemPlace} (h : DataW.trod enc Try.prog W base (fun _ => true) held fuel 31 cs = some x) :
    ∃ a b c : Int, cs = [.int .i64 a, .int .i64 b, .int .i64 c] ∧ (-9223372036854775808 ≤ a ∧ a ≤ 9223372036854775807) ∧ (-9223372036854775808 ≤ b ∧ b ≤ 9223372036854775807) ∧ (-9223372036854775808 ≤ c ∧ c ≤ 9223372036854775807) := by
  obtain ⟨y0, y1, y2, m, hx, hl, h0, h1, h2⟩ := trod_structE3 Try.underlying31 h
  have ec : Try.prog.cellsOf 31 = 3 := by kernel_rfl
  have e0 : Try.prog.cellsOf 3 = 1 := by kernel_rfl
  rw [ec] at hl
  match cs, hl with
  | [v0, v1, v2], _ =>
    simp only [e0, List.drop_succ_cons, List.drop_zero, List.take_succ_cons, List.take_zero] at h0 h1 h2
    obtain ⟨a, rfl, hw0⟩ := open_int' Try.underlying3 h0
    obtain ⟨b, rfl, hw1⟩ := open_int' Try.underlying3 h1
    obtain ⟨c, rfl, hw2⟩ := open_int' Try.underlying3 h2
    exact ⟨a, b, c, rfl, wf_i64 hw0, wf_i64 hw1, wf_i64 hw2⟩
theorem open_boolC {fuel : Nat} {v : Value} {x : DataW H × List MemPlace} (h : DataW.trod enc Try.prog W base (fun _ => true) held fuel 4 [v] = some x) : ∃ b, v = .bool b := by
  obtain ⟨b, hb, _⟩ := DataW.trod_bool Try.underlying4 h
  simp only [List.cons.injEq, and_true] at hb
  exact ⟨b, hb⟩
/-- a slice of numbers in one cell -/
theorem open_intsC {fuel : Nat} {v : Value} {x : DataW H × List MemPlace} (h : DataW.trod enc Try.prog W base (fun _ => true) held fuel 34 [v] = some x) :
    ∃ L, Is W v L ∧ (∀ q ∈ L, -9223372036854775808 ≤ q ∧ q ≤ 9223372036854775807) ∧ L.length + 1 ≤ Rows.uptoBulk x.1 := by
  have h' := h
  rcases DataW.trod_slice Try.underlying34 h with ⟨hcs, hx⟩ | ⟨a, len', cap', elems, rest, n, _, hcs, hx, hba, hl, hm, hel, hi, _, _⟩
  · simp at hcs
    subst hcs
    exact open_ints h'
  · simp at hcs
    subst hcs
    exact open_ints h'
set_option maxRecDepth 100000 in
theorem open_wdL (fuel : Nat) (cs : List Value) (x : DataW H × List MemPlace) (h : DataW.trod enc Try.prog W base (fun _ => true) held fuel 33 cs = some x) :
    ∃ e : Wq, cs = mixL e.a e.dg e.t ∧ dok e.dg := by
  obtain ⟨y0, y1, y2, y3, y4, y5, m, hx, hl, h0, h1, h2, h3, h4, h5⟩ := trod_structE6 Try.underlying33 h
  have ec : Try.prog.cellsOf 33 = 39 := by kernel_rfl
  rw [ec] at hl
  have e0 : Try.prog.cellsOf 3 = 1 := by kernel_rfl
  have e1 : Try.prog.cellsOf 27 = 1 := by kernel_rfl
  have e2 : Try.prog.cellsOf 29 = 32 := by kernel_rfl
  have e3 : Try.prog.cellsOf 9 = 1 := by kernel_rfl
  have e4 : Try.prog.cellsOf 31 = 3 := by kernel_rfl
  simp only [e0, e1, e2, e3, e4] at h0 h1 h2 h3 h4 h5
  have hc := cutWd cs hl
  have one : ∀ a, a < 39 → ∃ v, (cs.drop a).take 1 = [v] := fun a ha => by
    rw [List.drop_eq_getElem_cons (by omega)]
    exact ⟨_, rfl⟩
  obtain ⟨v0, q0⟩ := one 0 (by omega)
  rw [q0] at h0 hc
  obtain ⟨v1, q1⟩ := one 1 (by omega)
  rw [q1] at h1 hc
  obtain ⟨v3, q3⟩ := one 34 (by omega)
  rw [q3] at h3 hc
  obtain ⟨v4, q4⟩ := one 35 (by omega)
  rw [q4] at h4 hc
  obtain ⟨k, rfl, hw0⟩ := open_int' Try.underlying3 h0
  obtain ⟨s, rfl, hw1⟩ := open_int' Try.underlying27 h1
  obtain ⟨dg, hdg, hdc, _, _⟩ := open_dig h2
  obtain ⟨nm, rfl, hnm, _⟩ := open_str' Try.underlying9 h3
  obtain ⟨z, rfl, hw4⟩ := open_int' Try.underlying3 h4
  obtain ⟨a, b, c, hlc, ha, hb, hcc⟩ := open_locE h5
  refine ⟨⟨k, s, dg, nm, z, a, b, c⟩, ?_, hdg⟩
  rw [hc, hdc, hlc]
  rfl
set_option maxRecDepth 100000 in
theorem open_wd19 {r : Reach} {b0 : Nat} {v : Value} {d : DataW H} {ps : List MemPlace} (hv : Value.okWide Try.prog W r b0 33 v)
    (h : DataW.Trod enc Try.prog W base (fun _ => true) held 33 v d ps) : ∃ e : Wq, v = e.v ∧ dok e.dg := by
  obtain ⟨cs, rfl, hsz⟩ := okWide_struct Try.underlying33 hv
  obtain ⟨fuel, hf⟩ := h
  obtain ⟨e, hc, h1⟩ := open_wdL fuel cs.toList (d, ps) hf
  refine ⟨e, ?_, h1⟩
  unfold Wq.v
  congr 1
  exact Array.toList_inj.1 hc
end
end Go.Proofs.Ytieednadbcghjaa

namespace Go.Proofs.Ytieednadbcghjaa
set_option linter.unusedVariables false
open Go.RowKit Go.Lib Go.ChangeShapes Go.WideShapes Go.ChangeAt

section
variable {H : Type} {enc : TypeId × Value → H} {W : World} {base : Nat} {held : Bool}
set_option maxRecDepth 100000 in
theorem open_tnL (fuel : Nat) (cs : List Value) (x : DataW H × List MemPlace) (h : DataW.trod enc Try.prog W base (fun _ => true) held fuel 42 cs = some x) :
    ∃ (e : Pt) (s : Value), cs = mixL e.a e.dg (e.t s) ∧ Is W s e.ins ∧ dok e.dg ∧ e.ins.length + 1 ≤ Rows.uptoBulk x.1 := by
  obtain ⟨y0, y1, y2, y3, y4, m, hx, hl, h0, h1, h2, h3, h4⟩ := trod_structE5 Try.underlying42 h
  have ec : Try.prog.cellsOf 42 = 38 := by kernel_rfl
  rw [ec] at hl
  have e0 : Try.prog.cellsOf 9 = 1 := by kernel_rfl
  have e1 : Try.prog.cellsOf 29 = 32 := by kernel_rfl
  have e2 : Try.prog.cellsOf 4 = 1 := by kernel_rfl
  have e3 : Try.prog.cellsOf 31 = 3 := by kernel_rfl
  have e4 : Try.prog.cellsOf 34 = 1 := by kernel_rfl
  simp only [e0, e1, e2, e3, e4] at h0 h1 h2 h3 h4
  have hc := cutTn cs hl
  have one : ∀ a, a < 38 → ∃ v, (cs.drop a).take 1 = [v] := fun a ha => by
    rw [List.drop_eq_getElem_cons (by omega)]
    exact ⟨_, rfl⟩
  obtain ⟨v0, q0⟩ := one 0 (by omega)
  rw [q0] at h0 hc
  obtain ⟨v2, q2⟩ := one 33 (by omega)
  rw [q2] at h2 hc
  obtain ⟨v4, q4⟩ := one 37 (by omega)
  rw [q4] at h4 hc
  obtain ⟨nm, rfl, hnm, _⟩ := open_str' Try.underlying9 h0
  obtain ⟨dg, hdg, hdc, _, _⟩ := open_dig h1
  obtain ⟨g, rfl⟩ := open_boolC h2
  obtain ⟨a, b, c, hlc, ha, hb, hcc⟩ := open_locE h3
  obtain ⟨L, hL, hLo, hLb⟩ := open_intsC h4
  refine ⟨⟨nm, dg, g, a, b, c, L⟩, v4, ?_, hL, hdg, ?_⟩
  · rw [hc, hdc, hlc]
    rfl
  · rw [hx]
    simp only [Rows.uptoBulk, Rows.uptoBulkAll]
    omega
set_option maxRecDepth 100000 in
theorem open_tn {r : Reach} {b0 : Nat} {v : Value} {d : DataW H} {ps : List MemPlace} (hv : Value.okWide Try.prog W r b0 42 v)
    (h : DataW.Trod enc Try.prog W base (fun _ => true) held 42 v d ps) : ∃ (e : Pt) (s : Value), v = tnV e s ∧ Is W s e.ins ∧ dok e.dg ∧ e.ins.length + 1 ≤ Rows.uptoBulk d := by
  obtain ⟨cs, rfl, hsz⟩ := okWide_struct Try.underlying42 hv
  obtain ⟨fuel, hf⟩ := h
  obtain ⟨e, s, hc, h1, h2, h3⟩ := open_tnL fuel cs.toList (d, ps) hf
  refine ⟨e, s, ?_, h1, h2, h3⟩
  unfold tnV tnC
  congr 1
  exact Array.toList_inj.1 hc
end
end Go.Proofs.Ytieednadbcghjaa

namespace Go.Proofs.Ytieednadbcghjaa
set_option linter.unusedVariables false
open Go.RowKit Go.Lib Go.ChangeShapes Go.WideShapes Go.ChangeAt

section
variable {H : Type} {enc : TypeId × Value → H} {W : World} {base : Nat} {held : Bool}
theorem open_txL (fuel : Nat) (cs : List Value) (y : DataW H × List MemPlace) (h : DataW.trod enc Try.prog W base (fun _ => true) held fuel encTn.t cs = some y) :
    ∃ q : Tx, cs = encTn.f q ∧ (Is W q.s q.e.ins ∧ dok q.e.dg) ∧ q.e.ins.length + 1 ≤ Rows.uptoBulk y.1 := by
  obtain ⟨e, s, hc, hi, hd, hb⟩ := open_tnL fuel cs y h
  obtain ⟨X, h1, h2, h3⟩ := hi.tx hd.1
  refine ⟨X, ?_, ⟨h3, by rw [h1]; exact hd⟩, by rw [h1]; exact hb⟩
  rw [hc]
  show _ = mixL X.e.a X.e.dg (X.e.t X.s)
  rw [h1, h2]
theorem open_tents {fuel : Nat} {a0 : Option Addr} {len cap : Nat} {x : DataW H × List MemPlace}
    (h : DataW.trod enc Try.prog W base (fun _ => true) held fuel 22 [.slice a0 len cap] = some x) :
    len ≤ cap ∧ cap ≤ maxLen ∧ (a0 = none → cap = 0) ∧ ∃ (L : List Tx) (K : Nat), ReT W (fun b => b < W.heap.size) a0 len L ∧ insLeT (ptL L) K ∧ len + K + 1 ≤ Rows.uptoBulk x.1 := by
  obtain ⟨hl0, hm0, hp0, L, hL, hLo, hLs⟩ := open_gs encTn Try.underlying22 (by kernel_rfl) (fun q => q.e.ins.length + 1) (fun q => Is W q.s q.e.ins ∧ dok q.e.dg) open_txL h
  obtain ⟨K, h1, h2⟩ := sum_max (fun q : Tx => q.e.ins.length) (fun q => q.e.ins.length + 1) (fun _ => Nat.le_refl _) L
  refine ⟨hl0, hm0, hp0, L, K, ⟨hL, fun hn b off hp => ?_, fun y hy => (hLo y hy).1, fun y hy hne b hb => (hLo y hy).1.lt hne hb, fun y hy => (hLo y hy).2, fun b hb => hb⟩, fun y hy => ?_, ?_⟩
  · subst hp
    exact hL.block_lt (by omega)
  · obtain ⟨z, hz, rfl⟩ := List.mem_map.1 hy
    exact h1 z hz
  · have := hL.len
    omega
end
end Go.Proofs.Ytieednadbcghjaa
