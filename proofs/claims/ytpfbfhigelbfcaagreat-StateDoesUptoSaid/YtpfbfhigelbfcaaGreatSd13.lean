/- Layer 19, the reference: in, Add, Row, both, Others, Alive; Layer 19, the reference: Others, Alive -/
import Derived.Test.YtpfbfhigelbfcaaGreatSd11
import Derived.Lib.SmallJoins
set_option linter.unusedSimpArgs false
set_option linter.unusedVariables false
namespace Go.Proofs.YtpfbfhigelbfcaaGreat
open Go.RowKit Go.Lib
set_option maxRecDepth 100000 in
set_option maxHeartbeats 2000000 in
theorem radd19_any (p : Option Addr) (m c : Nat) (L : List Int) (n : Int) (w : World) (h : Gs encI w p m L) (hm : m ≤ 2097152) :
 Calls Tryz.prog 114 #[.slice p m c, .int .i64 n] w fun e w' => ∃ v, e = .returned v ∧ Gw encI w' w.heap.size v (putI L n) ∧ Below w.heap.size w w' := by
 have H := Lib.hid h
 have HL := Lib.hid h.1
 have HB0 := Lib.hid (Below.refl w.heap.size w)
 have HO0 := Lib.hid (Gw.nil encI w w.heap.size)
 have HLN : Hid ((putI L n).length ≤ 2097153) := Lib.hid (Nat.le_trans (putIR_length n L false) (by rw [h.1]; simp; omega))
 clear h
 go_enter Tryz.func114, Tryz.ntmps114
 go_wp2
 go_loopw [5, 6, 7] (fun v t i wr => ∃ (k : Nat) (o : List Int) (tb : Bool), k ≤ m ∧ i = .int .i64 (k : Int) ∧ t = .bool tb ∧ Hid (Gw encI wr w.heap.size v o) ∧ Hid (o ++ putIR n (L.drop k) tb = putI L n) ∧ Hid (Below w.heap.size w wr)) (fun _ _ i _ => m - (intOf i).toNat)
 case atStart => exact ⟨0, [], false, by omega, rfl, rfl, HO0, Lib.hid (by simp [putI]), HB0⟩
 case round =>
  clear HO0 HB0
  obtain ⟨k, o, tb, hk, rfl, rfl, HO, HE, HB⟩ := hrel
  by_cases hlt : k < m
  ·obtain ⟨b, off, rfl, c0⟩ := H.out.it k hlt
   have HS := Lib.hid (putI_drop (L := L) (k := k) (by rw [HL.out]; exact hlt) n tb)
   have hkn : (k : Int) < (m : Int) := by omega
   have hk0 : (0 : Int) ≤ (k : Int) := by omega
   generalize L.getD k 0 = y at *
   have HK : Hid (∀ W, Below w.heap.size w W → W.cell? ⟨b, off + k, none⟩ = some (.int .i64 y)) := Lib.hid fun W hW => by
    rw [hW.cell (World.block_lt_of_cell? w _ c0)]; exact c0
   clear c0
   have c0 := HK.out _ HB.out
   by_cases h1 : n ≤ y
   ·by_cases h2 : tb = false ∧ n < y
    ·obtain ⟨rfl, h3⟩ := h2
     have HF : Hid ((o ++ [n]) ++ [y] ++ putIR n (L.drop (k + 1)) true = putI L n) := Lib.hid (by have := HE.out; rw [HS.out, if_pos (by simp [h1, h3]), decide_eq_true h1] at this; rw [← this]; simp)
     have HZ1 : Hid (o.length + 1 ≤ 2097216) := Lib.hid (by have h2 := HLN.out; rw [← HF.out] at h2; simp at h2; omega)
     have HZ2 : Hid ((o ++ [n]).length + 1 ≤ 2097216) := Lib.hid (by have h2 := HLN.out; rw [← HF.out] at h2; simp at h2 ⊢; omega)
     clear HS HE
     have HN1 := Lib.hid (Gs.one encI wr n #[.int .i64 n] rfl 3 (0, 0))
     have HL1 := Lib.hid (below_allocF HB.out (.cells #[.int .i64 n] 3))
     have HA1 := Lib.hid (HO.out.alloc (.cells #[.int .i64 n] 3))
     go_wp2_with (first
      | (refine wpList_append_gen encI rfl (.tmp 30) (.tmp 32) 40 rfl Tryz.underlying40 (.int .i64 0) 8 infoI rfl (by decide) w.heap.size _ _ rfl HA1.out _ 1 1 [n] rfl HN1.out (fun h => by cases h) HZ1.out HL1.out.size ?_; intro v1 w1 ho1 hg1; have HO1 := Lib.hid ho1; have HB1 : Hid (Below w.heap.size w w1) := Lib.hid (below_new_gw HL1.out HA1.out hg1 HL1.out.size); clear ho1 hg1 c0; have c0 := HK.out _ HB1.out; have HN2 := Lib.hid (Gs.one encI w1 y #[.int .i64 y] rfl 3 (0, 0)); have HL2 := Lib.hid (below_allocF HB1.out (.cells #[.int .i64 y] 3)); have HA2 := Lib.hid (HO1.out.alloc (.cells #[.int .i64 y] 3)))
      | (refine wpList_append_gen encI rfl (.tmp 34) (.tmp 39) 40 rfl Tryz.underlying40 (.int .i64 0) 8 infoI rfl (by decide) w.heap.size _ _ rfl HA2.out _ 1 1 [y] rfl HN2.out (fun h => by cases h) HZ2.out HL2.out.size ?_; intro v2 w2 ho2 hg2; have HO2 := Lib.hid ho2; have HB2 : Hid (Below w.heap.size w w2) := Lib.hid (below_new_gw HL2.out HA2.out hg2 HL2.out.size); clear ho2 hg2))
     refine ⟨?_, by simp [intOf] <;> omega⟩
     first
      | exact ⟨k + 1, _, true, by omega, by go_num, rfl, HO2, HF, HB2⟩
      | ((repeat apply Exists.intro); refine ⟨?_, rfl⟩; exact ⟨k + 1, _, true, by omega, by go_num, rfl, HO2, HF, HB2⟩)
    ·have HF : Hid (o ++ [y] ++ putIR n (L.drop (k + 1)) true = putI L n) := Lib.hid (by
      have := HE.out
      rw [HS.out, if_neg (fun h => h2 ⟨h.1, h.2.2⟩), decide_eq_true h1] at this
      rw [← this]; simp)
     have HZ1 : Hid (o.length + 1 ≤ 2097216) := Lib.hid (by have h2 := HLN.out; rw [← HF.out] at h2; simp at h2; omega)
     have HN1 := Lib.hid (Gs.one encI wr y #[.int .i64 y] rfl 3 (0, 0))
     have HL1 := Lib.hid (below_allocF HB.out (.cells #[.int .i64 y] 3))
     have HA1 := Lib.hid (HO.out.alloc (.cells #[.int .i64 y] 3))
     clear HS HE
     cases tb
     ·have h3 : ¬ n < y := fun h => h2 ⟨rfl, h⟩
      clear h2
      go_wp2_with (refine wpList_append_gen encI rfl (.tmp 34) (.tmp 39) 40 rfl Tryz.underlying40 (.int .i64 0) 8 infoI rfl (by decide) w.heap.size _ _ rfl HA1.out _ 1 1 [y] rfl HN1.out (fun h => by cases h) HZ1.out HL1.out.size ?_; intro v2 w2 ho2 hg2; have HO2 := Lib.hid ho2; have HB2 : Hid (Below w.heap.size w w2) := Lib.hid (below_new_gw HL1.out HA1.out hg2 HL1.out.size); clear ho2 hg2)
      refine ⟨?_, by simp [intOf] <;> omega⟩
      first
       | exact ⟨k + 1, _, true, by omega, by go_num, rfl, HO2, HF, HB2⟩
       | ((repeat apply Exists.intro); refine ⟨?_, rfl⟩; exact ⟨k + 1, _, true, by omega, by go_num, rfl, HO2, HF, HB2⟩)
     ·clear h2
      go_wp2_with (refine wpList_append_gen encI rfl (.tmp 34) (.tmp 39) 40 rfl Tryz.underlying40 (.int .i64 0) 8 infoI rfl (by decide) w.heap.size _ _ rfl HA1.out _ 1 1 [y] rfl HN1.out (fun h => by cases h) HZ1.out HL1.out.size ?_; intro v2 w2 ho2 hg2; have HO2 := Lib.hid ho2; have HB2 : Hid (Below w.heap.size w w2) := Lib.hid (below_new_gw HL1.out HA1.out hg2 HL1.out.size); clear ho2 hg2)
      refine ⟨?_, by simp [intOf] <;> omega⟩
      first
       | exact ⟨k + 1, _, true, by omega, by go_num, rfl, HO2, HF, HB2⟩
       | ((repeat apply Exists.intro); refine ⟨?_, rfl⟩; exact ⟨k + 1, _, true, by omega, by go_num, rfl, HO2, HF, HB2⟩)
   ·have HF : Hid (o ++ [y] ++ putIR n (L.drop (k + 1)) tb = putI L n) := Lib.hid (by
     have := HE.out
     rw [HS.out, if_neg (fun h => h1 h.2.1), decide_eq_false h1, Bool.or_false] at this
     rw [← this]; simp)
    have HZ1 : Hid (o.length + 1 ≤ 2097216) := Lib.hid (by have h2 := HLN.out; rw [← HF.out] at h2; simp at h2; omega)
    have HN1 := Lib.hid (Gs.one encI wr y #[.int .i64 y] rfl 3 (0, 0))
    have HL1 := Lib.hid (below_allocF HB.out (.cells #[.int .i64 y] 3))
    have HA1 := Lib.hid (HO.out.alloc (.cells #[.int .i64 y] 3))
    clear HS HE
    cases tb
    all_goals
     go_wp2_with (refine wpList_append_gen encI rfl (.tmp 34) (.tmp 39) 40 rfl Tryz.underlying40 (.int .i64 0) 8 infoI rfl (by decide) w.heap.size _ _ rfl HA1.out _ 1 1 [y] rfl HN1.out (fun h => by cases h) HZ1.out HL1.out.size ?_; intro v2 w2 ho2 hg2; have HO2 := Lib.hid ho2; have HB2 : Hid (Below w.heap.size w w2) := Lib.hid (below_new_gw HL1.out HA1.out hg2 HL1.out.size); clear ho2 hg2)
     refine ⟨?_, by simp [intOf] <;> omega⟩
     first
      | exact ⟨k + 1, _, _, by omega, by go_num, rfl, HO2, HF, HB2⟩
      | ((repeat apply Exists.intro); refine ⟨?_, rfl⟩; exact ⟨k + 1, _, _, by omega, by go_num, rfl, HO2, HF, HB2⟩)
  ·obtain rfl : k = m := by omega
   cases tb
   ·have HF : Hid (o ++ [n] = putI L n) := Lib.hid (by
     have h := HE.out
     rw [List.drop_of_length_le (by rw [HL.out]; omega)] at h
     exact h)
    have HZ1 : Hid (o.length + 1 ≤ 2097216) := Lib.hid (by have h2 := HLN.out; rw [← HF.out] at h2; simp at h2; omega)
    have HN1 := Lib.hid (Gs.one encI wr n #[.int .i64 n] rfl 3 (0, 0))
    have HL1 := Lib.hid (below_allocF HB.out (.cells #[.int .i64 n] 3))
    have HA1 := Lib.hid (HO.out.alloc (.cells #[.int .i64 n] 3))
    clear HE
    go_wp2_with (refine wpList_append_gen encI rfl (.tmp 43) (.tmp 45) 40 rfl Tryz.underlying40 (.int .i64 0) 8 infoI rfl (by decide) w.heap.size _ _ rfl HA1.out _ 1 1 [n] rfl HN1.out (fun h => by cases h) HZ1.out HL1.out.size ?_; intro v2 w2 ho2 hg2; have HO2 := Lib.hid ho2; have HB2 : Hid (Below w.heap.size w w2) := Lib.hid (below_new_gw HL1.out HA1.out hg2 HL1.out.size); clear ho2 hg2)
    go_ret
    exact ⟨_, rfl, by rw [← HF.out]; exact HO2.out, HB2.out⟩
   ·have HF : Hid (o = putI L n) := Lib.hid (by
     have h := HE.out
     rw [List.drop_of_length_le (by rw [HL.out]; omega)] at h
     simpa [putIR] using h)
    go_wp2
    go_ret
    exact ⟨_, rfl, by rw [← HF.out]; exact HO.out, HB.out⟩
set_option maxRecDepth 100000 in
theorem rin19_any (p : Option Addr) (m c : Nat) (L : List Int) (n : Int) (w : World) (h : Gs encI w p m L) (hm : m ≤ 2097152) :
 Calls Tryz.prog 121 #[.slice p m c, .int .i64 n] w fun e w' => e = .returned (.bool (decide (n ∈ L))) ∧ w' = w := by
 have H := Lib.hid h
 have HL := Lib.hid h.1
 clear h
 go_enter Tryz.func121, Tryz.ntmps121
 go_wp2
 go_loopw [5] (fun i wr => ∃ k : Nat, k ≤ m ∧ i = .int .i64 k ∧ Hid (n ∉ L.take k) ∧ wr = w) (fun i _ => m - (intOf i).toNat)
 case atStart => exact ⟨0, Nat.zero_le _, rfl, Lib.hid (by simp), rfl⟩
 case round =>
  obtain ⟨k, hk, rfl, HNO, rfl⟩ := hrel
  by_cases hlt : k < m
  ·obtain ⟨b, off, rfl, c0⟩ := H.out.it k hlt
   have hkn : (k : Int) < (m : Int) := by omega
   have hk0 : (0 : Int) ≤ (k : Int) := by omega
   have HKL : Hid (k < L.length) := Lib.hid (by rw [HL.out]; exact hlt)
   have HG : Hid (L.getD k 0 ∈ L) := Lib.hid (by rw [List.getD_eq_getElem?_getD, List.getElem?_eq_getElem HKL.out]; exact List.getElem_mem _)
   have HT : Hid (L.take (k + 1) = L.take k ++ [L.getD k 0]) := Lib.hid (by rw [List.take_succ_eq_append_getElem HKL.out, List.getD_eq_getElem?_getD, List.getElem?_eq_getElem HKL.out]; rfl)
   generalize L.getD k 0 = y at *
   by_cases hy : y = n
   ·have heq : (y == n) = true := by simpa using hy
    have HM : Hid (n ∈ L) := Lib.hid (by rw [← hy]; exact HG.out)
    clear hy
    go_wp2
    go_ret
    exact ⟨by rw [decide_eq_true HM.out]; rfl, rfl⟩
   ·have heq : (y == n) = false := by simpa using hy
    have HNO2 : Hid (n ∉ L.take (k + 1)) := Lib.hid (by
     rw [HT.out, List.mem_append]
     rintro (h | h)
     ·exact HNO.out h
     ·rw [List.mem_singleton] at h
      exact hy h.symm)
    clear hy
    go_wp2
    exact ⟨⟨k + 1, by omega, by go_num, HNO2, by first | rfl | trivial⟩, by simp [intOf] <;> omega⟩
  ·obtain rfl : k = m := by omega
   have HM : Hid (n ∉ L) := Lib.hid (by have h1 := HNO.out; rwa [List.take_of_length_le (by rw [HL.out]; exact Nat.le_refl _)] at h1)
   go_wp2
   go_ret
   exact ⟨by rw [decide_eq_false HM.out]; rfl, rfl⟩
theorem fold_takeI {L : List Int} {k : Nat} (h : k < L.length) : (L.take (k + 1)).foldl putI [] = putI ((L.take k).foldl putI []) (L.getD k 0) := by
 rw [List.take_succ_eq_append_getElem h, List.foldl_append, List.getD_eq_getElem?_getD, List.getElem?_eq_getElem h]
 rfl
theorem fold_lenI (L : List Int) : (L.foldl putI []).length ≤ L.length := rowI_length L
set_option maxRecDepth 100000 in
set_option maxHeartbeats 1000000 in
theorem rrow19_any (p : Option Addr) (m c : Nat) (L : List Int) (w : World) (h : Gs encI w p m L) (hm : m ≤ 2097152) :
 Calls Tryz.prog 115 #[.slice p m c] w fun e w' => ∃ v, e = .returned v ∧ Gw encI w' w.heap.size v (rowI L) ∧ Below w.heap.size w w' := by
 have H := Lib.hid h
 have HL := Lib.hid h.1
 have HA := Lib.hid fun (q : Option Addr) (n d : Nat) (M : List Int) (y : Int) W (hW : Gs encI W q n M) (hn : n ≤ 2097152) => radd19_any q n d M y W hW hn
 clear h
 go_enter Tryz.func115, Tryz.ntmps115
 go_wp2
 go_loopw [3, 4] (fun v i wr => ∃ (k : Nat) (q : Option Addr) (n d : Nat), k ≤ m ∧ i = .int .i64 (k : Int) ∧ v = .slice q n d ∧ Hid (Gw encI wr w.heap.size (.slice q n d) ((L.take k).foldl putI [])) ∧ Hid (Below w.heap.size w wr)) (fun _ i _ => m - (intOf i).toNat)
 case atStart => exact ⟨0, none, 0, 0, by omega, rfl, rfl, Lib.hid (Gw.nil _ _ _), Lib.hid (Below.refl _ _)⟩
 case round =>
  obtain ⟨k, q, n, d, hk, rfl, rfl, HO, HB⟩ := hrel
  by_cases hlt : k < m
  ·obtain ⟨b, off, rfl, c0⟩ := (H.out.later HB.out).it k hlt
   have hkn : (k : Int) < (m : Int) := by omega
   have hk0 : (0 : Int) ≤ (k : Int) := by omega
   have HT := Lib.hid (fold_takeI (L := L) (k := k) (by rw [HL.out]; exact hlt))
   have hnn : n ≤ 2097152 := by
    have h1 := HO.out.len
    have h2 := fold_lenI (L.take k)
    rw [List.length_take, HL.out] at h2
    omega
   have HC := Lib.hid fun y => HA.out q n d _ y wr HO.out.gs hnn
   generalize L.getD k 0 = y at *
   clear hnn
   go_wp2_with (go_at_call 114; refine (HC.out _).mono ?_; rintro e w2 ⟨v2, rfl, ho2, hb2⟩; rw [← HT.out] at ho2; obtain ⟨q2, d2, hv2, _⟩ := ho2.open; obtain ⟨n2, hn2⟩ : ∃ x, ((L.take (k + 1)).foldl putI []).length = x := ⟨_, rfl⟩; rw [hn2] at hv2; subst hv2; have HO2 := Lib.hid (ho2.mono HB.out.size); have HB2 := Lib.hid (below_step HB.out hb2); clear ho2 hb2 hn2)
   exact ⟨⟨k + 1, q2, n2, d2, by omega, by go_num, rfl, HO2, HB2⟩, by simp [intOf] <;> omega⟩
  ·obtain rfl : k = m := by omega
   have HE : Hid ((L.take k).foldl putI [] = rowI L) := Lib.hid (by rw [List.take_of_length_le (by rw [HL.out]; exact Nat.le_refl _)]; rfl)
   rw [HE.out] at HO
   go_wp2
   go_ret
   exact ⟨_, rfl, HO.out, HB.out⟩
theorem both_step {L b : List Int} {k : Nat} (h : k < L.length) : ((L.take (k + 1)).filter fun x => decide (x ∈ b)).foldl putI [] = if L.getD k 0 ∈ b then putI (((L.take k).filter fun x => decide (x ∈ b)).foldl putI []) (L.getD k 0) else ((L.take k).filter fun x => decide (x ∈ b)).foldl putI [] := by
 rw [List.take_succ_eq_append_getElem h, List.filter_append, List.foldl_append, List.getD_eq_getElem?_getD, List.getElem?_eq_getElem h]
 simp only [Option.getD_some]
 by_cases hx : L[k] ∈ b
 ·rw [if_pos hx, List.filter_cons_of_pos (by simpa using hx)]
  rfl
 ·rw [if_neg hx, List.filter_cons_of_neg (by simpa using hx)]
  rfl
theorem both_len (L b : List Int) (k : Nat) : (((L.take k).filter fun x => decide (x ∈ b)).foldl putI []).length ≤ L.length := by
 refine Nat.le_trans (fold_lenI _) (Nat.le_trans (List.length_filter_le _ _) ?_)
 rw [List.length_take]
 omega
set_option maxRecDepth 100000 in
set_option maxHeartbeats 1000000 in
theorem rboth19_any (p : Option Addr) (m c : Nat) (L : List Int) (p2 : Option Addr) (m2 c2 : Nat) (L2 : List Int) (w : World) (h : Gs encI w p m L) (h2 : Gs encI w p2 m2 L2) (hm : m ≤ 2097152) (hm2 : m2 ≤ 2097152) :
 Calls Tryz.prog 120 #[.slice p m c, .slice p2 m2 c2] w fun e w' => ∃ v, e = .returned v ∧ Gw encI w' w.heap.size v (bothI L L2) ∧ Below w.heap.size w w' := by
 have H := Lib.hid h
 have HL := Lib.hid h.1
 have HA := Lib.hid fun (q : Option Addr) (n d : Nat) (M : List Int) (y : Int) W (hW : Gs encI W q n M) (hn : n ≤ 2097152) => radd19_any q n d M y W hW hn
 have HI := Lib.hid fun W y (hW : Below w.heap.size w W) => rin19_any p2 m2 c2 L2 y W (h2.later hW) hm2
 clear h h2
 go_enter Tryz.func120, Tryz.ntmps120
 go_wp2
 go_loopw [5, 6] (fun v i wr => ∃ (k : Nat) (q : Option Addr) (n d : Nat), k ≤ m ∧ i = .int .i64 (k : Int) ∧ v = .slice q n d ∧ Hid (Gw encI wr w.heap.size (.slice q n d) (((L.take k).filter fun x => decide (x ∈ L2)).foldl putI [])) ∧ Hid (Below w.heap.size w wr)) (fun _ i _ => m - (intOf i).toNat)
 case atStart => exact ⟨0, none, 0, 0, by omega, rfl, rfl, Lib.hid (Gw.nil _ _ _), Lib.hid (Below.refl _ _)⟩
 case round =>
  obtain ⟨k, q, n, d, hk, rfl, rfl, HO, HB⟩ := hrel
  by_cases hlt : k < m
  ·obtain ⟨b, off, rfl, c0⟩ := (H.out.later HB.out).it k hlt
   have hkn : (k : Int) < (m : Int) := by omega
   have hk0 : (0 : Int) ≤ (k : Int) := by omega
   have HT := Lib.hid (both_step (L := L) (b := L2) (k := k) (by rw [HL.out]; exact hlt))
   have hnn : n ≤ 2097152 := by
    have h1 := HO.out.len
    have h2 := both_len L L2 k
    rw [HL.out] at h2
    omega
   have HC := Lib.hid fun y => HA.out q n d _ y wr HO.out.gs hnn
   have HLB : Hid ((((L.take (k + 1)).filter fun x => decide (x ∈ L2)).foldl putI []).length ≤ 2097152) := Lib.hid (by have h2 := both_len L L2 (k + 1); rw [HL.out] at h2; omega)
   generalize L.getD k 0 = y at *
   have HIY := Lib.hid (HI.out wr y HB.out)
   clear hnn
   by_cases hy : y ∈ L2
   ·have hdy : decide (y ∈ L2) = true := by simpa using hy
    rw [if_pos hy] at HT
    rw [hdy] at HIY
    clear hy hdy
    go_wp2_with (first
     | (go_at_call 121; refine HIY.out.mono ?_; rintro e w1 ⟨rfl, rfl⟩)
     | (go_at_call 114; refine (HC.out _).mono ?_; rintro e w2 ⟨v2, rfl, ho2, hb2⟩; rw [← HT.out] at ho2; obtain ⟨q2, d2, hv2, _⟩ := ho2.open; obtain ⟨n2, hn2⟩ : ∃ x, (((L.take (k + 1)).filter fun x => decide (x ∈ L2)).foldl putI []).length = x := ⟨_, rfl⟩; rw [hn2] at hv2; subst hv2; have HO2 := Lib.hid (ho2.mono HB.out.size); have HB2 := Lib.hid (below_step HB.out hb2); clear ho2 hb2 hn2))
    exact ⟨⟨k + 1, q2, n2, d2, by omega, by go_num, rfl, HO2, HB2⟩, by simp [intOf] <;> omega⟩
   ·have hdy : decide (y ∈ L2) = false := by simpa using hy
    rw [if_neg hy] at HT
    rw [hdy] at HIY
    rw [← HT.out] at HO
    clear hy hdy
    go_wp2_with (go_at_call 121; refine HIY.out.mono ?_; rintro e w1 ⟨rfl, rfl⟩)
    exact ⟨⟨k + 1, q, n, d, by omega, by go_num, rfl, HO, HB⟩, by simp [intOf] <;> omega⟩
  ·obtain rfl : k = m := by omega
   have HE : Hid (((L.take k).filter fun x => decide (x ∈ L2)).foldl putI [] = bothI L L2) := Lib.hid (by rw [List.take_of_length_le (by rw [HL.out]; exact Nat.le_refl _)]; rfl)
   rw [HE.out] at HO
   go_wp2
   go_ret
   exact ⟨_, rfl, HO.out, HB.out⟩
def cntO (L : List Int) (s : Int) : Nat := (L.filter fun x => decide (x ≠ s)).length
theorem cntO_step {L : List Int} {k : Nat} (h : k < L.length) (s : Int) : cntO (L.take (k + 1)) s = if L.getD k 0 ≠ s then cntO (L.take k) s + 1 else cntO (L.take k) s := by
 unfold cntO
 rw [List.take_succ_eq_append_getElem h, List.filter_append, List.length_append, List.getD_eq_getElem?_getD, List.getElem?_eq_getElem h]
 simp only [Option.getD_some]
 by_cases hx : L[k] ≠ s
 ·rw [if_pos hx, List.filter_cons_of_pos (by simpa using hx)]
  rfl
 ·rw [if_neg hx, List.filter_cons_of_neg (by simpa using hx)]
  rfl
theorem cntO_le (L : List Int) (k : Nat) (s : Int) : cntO (L.take k) s ≤ L.length := by
 refine Nat.le_trans (List.length_filter_le _ _) ?_
 rw [List.length_take]
 omega
theorem cntO_any (L : List Int) (s : Int) : decide (0 < cntO L s) = L.any fun x => decide (x ≠ s) := by
 unfold cntO
 by_cases h : (L.any fun x => decide (x ≠ s)) = true
 ·obtain ⟨x, hx, hy⟩ := List.any_eq_true.1 h
  rw [h, decide_eq_true]
  exact List.length_pos_of_mem (List.mem_filter.2 ⟨hx, hy⟩)
 ·rw [Bool.not_eq_true] at h
  rw [h, decide_eq_false]
  intro h2
  obtain ⟨x, hx⟩ := List.exists_mem_of_length_pos h2
  obtain ⟨h3, h4⟩ := List.mem_filter.1 hx
  rw [List.any_eq_false] at h
  exact h x h3 h4
set_option maxRecDepth 100000 in
theorem rothers19_any (p : Option Addr) (m c : Nat) (L : List Int) (s : Int) (w : World) (h : Gs encI w p m L) (hm : m ≤ 2097152) :
 Calls Tryz.prog 97 #[.slice p m c, .int .i64 s] w fun e w' => e = .returned (.int .i64 (cntO L s : Int)) ∧ w' = w := by
 have H := Lib.hid h
 have HL := Lib.hid h.1
 clear h
 go_enter Tryz.func97, Tryz.ntmps97
 go_wp2
 go_loopw [5, 6] (fun v i wr => ∃ (k n : Nat), k ≤ m ∧ i = .int .i64 (k : Int) ∧ v = .int .i64 (n : Int) ∧ Hid (n = cntO (L.take k) s) ∧ wr = w) (fun _ i _ => m - (intOf i).toNat)
 case atStart => exact ⟨0, 0, by omega, rfl, rfl, Lib.hid rfl, rfl⟩
 case round =>
  obtain ⟨k, n, hk, rfl, rfl, HN, rfl⟩ := hrel
  have hnm : n ≤ 2097152 := by
   have h2 := cntO_le L k s
   rw [HL.out, ← HN.out] at h2
   omega
  by_cases hlt : k < m
  ·obtain ⟨b, off, rfl, c0⟩ := H.out.it k hlt
   have hkn : (k : Int) < (m : Int) := by omega
   have hk0 : (0 : Int) ≤ (k : Int) := by omega
   have HT := Lib.hid (cntO_step (L := L) (k := k) (by rw [HL.out]; exact hlt) s)
   generalize L.getD k 0 = y at *
   by_cases hy : y = s
   ·have heq : (y != s) = false := by simpa using hy
    have HN2 : Hid (n = cntO (L.take (k + 1)) s) := Lib.hid (by rw [HT.out, if_neg (fun h => h hy)]; exact HN.out)
    clear hy
    go_wp2
    exact ⟨⟨k + 1, n, by omega, by go_num, rfl, HN2, by first | rfl | trivial⟩, by simp [intOf] <;> omega⟩
   ·have heq : (y != s) = true := by simpa using hy
    have HN2 : Hid (n + 1 = cntO (L.take (k + 1)) s) := Lib.hid (by rw [HT.out, if_pos hy, HN.out])
    clear hy
    go_wp2
    exact ⟨⟨k + 1, n + 1, by omega, by go_num, by go_num, HN2, by first | rfl | trivial⟩, by simp [intOf] <;> omega⟩
  ·obtain rfl : k = m := by omega
   have HN2 : Hid (n = cntO L s) := Lib.hid (by have h1 := HN.out; rwa [List.take_of_length_le (by rw [HL.out]; exact Nat.le_refl _)] at h1)
   go_wp2
   go_ret
   exact ⟨by rw [← HN2.out]; rfl, rfl⟩
set_option maxRecDepth 100000 in
theorem ralive19_any (g : Bool) (p : Option Addr) (m c : Nat) (L : List Int) (s : Int) (w : World) (h : Gs encI w p m L) (hm : m ≤ 2097152) :
 Calls Tryz.prog 60 #[.bool g, .slice p m c, .int .i64 s] w fun e w' => e = .returned (.bool (aliveB g L s)) ∧ w' = w := by
 have HO := Lib.hid (rothers19_any p m c L s w h hm)
 have HV : Hid (aliveB g L s = (!g || decide (0 < cntO L s))) := Lib.hid (by unfold aliveB; rw [cntO_any])
 obtain ⟨n, hn⟩ : ∃ n, cntO L s = n := ⟨_, rfl⟩
 rw [hn] at HO HV
 clear h hn
 cases g with
 | false =>
   go_enter Tryz.func60, Tryz.ntmps60
   go_wp2
   go_ret
   exact ⟨by rw [HV.out]; rfl, rfl⟩
 | true =>
   by_cases h0 : 0 < n
   ·have hi : (0 : Int) < (n : Int) := by omega
    have HD : Hid (decide (0 < n) = true) := Lib.hid (by simpa using h0)
    clear h0
    go_enter Tryz.func60, Tryz.ntmps60
    go_wp2_with (go_at_call 97; refine HO.out.mono ?_; rintro e w1 ⟨rfl, rfl⟩)
    go_ret
    exact ⟨by rw [HV.out, HD.out]; rfl, rfl⟩
   ·obtain rfl : n = 0 := by omega
    clear h0
    go_enter Tryz.func60, Tryz.ntmps60
    go_wp2_with (go_at_call 97; refine HO.out.mono ?_; rintro e w1 ⟨rfl, rfl⟩)
    go_ret
    exact ⟨by rw [HV.out]; rfl, rfl⟩
end Go.Proofs.YtpfbfhigelbfcaaGreat

