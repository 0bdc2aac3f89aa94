/- Layer 19, the program: slices.Clone, Index, Contains, ContainsFunc at rows of numbers; beside; Layer 19, the program: a closure that tells other numbers; slices.ContainsFunc; beside; Layer 19, the program: Alive, AliveTag -/
import Derived.Test.YtpfbfhigelbfcaaGreatSd16
import Derived.Lib.SliceRun
set_option linter.unusedSimpArgs false
set_option linter.unusedVariables false
namespace Go.Proofs.YtpfbfhigelbfcaaGreat
open Go.RowKit Go.Lib
set_option maxRecDepth 100000 in
theorem cloneI_any (p : Option Addr) (n c : Nat) (L : List Int) (w : World) (h : Gs encI w p n L) (hpc : p = none → c = 0) (hnc : n ≤ c) (hn : n ≤ 2097200) :
 Calls Tryz.prog 122 #[.slice p n c] w fun e w' => ∃ p' c', e = .returned (.slice p' n c') ∧ Gw encI w' w.heap.size (.slice p' n c') L ∧ Below w.heap.size w w' := by
 have H := Lib.hid h
 have HB0 : Hid (Below w.heap.size w (w.alloc (.cells #[] 3))) := Lib.hid ((Below.refl _ _).alloc (Nat.le_refl _) _)
 have HO0 := Lib.hid (Gw.empty encI w w.heap.size (Nat.le_refl _))
 have hq : ∀ (w : World) (a : Option Addr) (n c n' c' : Nat), (binOp .eql 40 (.slice a n c) (.slice none n' c')).run Tryz.prog w = .ok (.bool a.isNone) w := fun w a n c n' c' => Lib.run_eql_slice_nil w _ _ a n c n' c' Tryz.underlying40
 cases p with
 | none =>
   obtain rfl := hpc rfl
   obtain rfl : n = 0 := by omega
   obtain rfl : L = [] := List.length_eq_zero_iff.1 h.1
   clear h hpc
   go_enter Tryz.func122, Tryz.ntmps122
   go_wp2
   go_ret
   exact ⟨none, 0, rfl, Gw.nil _ _ _, Below.refl _ _⟩
 | some ad =>
   have HD := Lib.hid (h.later HB0.out)
   have HZ : Hid (([] : List Int).length + n ≤ 2097216) := Lib.hid (by simp; omega)
   clear h hpc hnc hn
   go_enter Tryz.func122, Tryz.ntmps122
   go_wp2_with (refine wpList_append_gen encI rfl (.tmp 5) (.tmp 6) 40 rfl Tryz.underlying40 (.int .i64 0) 8 infoI rfl (by decide) w.heap.size _ [] rfl HO0.out _ n c L rfl HD.out (fun h => by cases h) HZ.out HB0.out.size ?_; intro v5 w5 ho5 hg5; have HO5 := Lib.hid ho5; have HB5 : Hid (Below w.heap.size w w5) := Lib.hid (below_new_gw HB0.out HO0.out hg5 HB0.out.size); clear ho5 hg5)
   go_ret
   have ho := HO5.out
   rw [List.nil_append] at ho
   obtain ⟨p', c', hv, hlc, _, _, hpn⟩ := ho.open
   have hl := H.out.1
   rw [hl] at hv hlc
   subst hv
   exact ⟨p', c', rfl, ho, HB5.out⟩
set_option maxRecDepth 100000 in
theorem indexI_any (p : Option Addr) (m c : Nat) (L : List Int) (n : Int) (w : World) (h : Gs encI w p m L) (hm : m ≤ 2097152) :
 Calls Tryz.prog 145 #[.slice p m c, .int .i64 n] w fun e w' => ∃ k : Int, e = .returned (.int .i64 k) ∧ decide (0 ≤ k) = decide (n ∈ L) ∧ w' = w := by
 have H := Lib.hid h
 have HL := Lib.hid h.1
 clear h
 go_enter Tryz.func145, Tryz.ntmps145
 go_wp2
 go_loopw [8] (fun i wr => ∃ k : Nat, k ≤ m ∧ i = .int .i64 k ∧ Hid (n ∉ L.take k) ∧ wr = w) (fun i _ => m - (intOf i).toNat)
 case atStart => exact ⟨0, Nat.zero_le _, rfl, Lib.hid (by simp), rfl⟩
 case round =>
  obtain ⟨k, hk, rfl, HNO, rfl⟩ := hrel
  by_cases hlt : k < m
  ·obtain ⟨b, off, rfl, c0⟩ := H.out.it k hlt
   have hkn : (k : Int) < (m : Int) := by omega
   have hk0 : (0 : Int) ≤ (k : Int) := by omega
   have HKL : Hid (k < L.length) := Lib.hid (by rw [HL.out]; exact hlt)
   have HG : Hid (L.getD k 0 ∈ L) := Lib.hid (by rw [List.getD_eq_getElem?_getD, List.getElem?_eq_getElem HKL.out]; exact List.getElem_mem _)
   have HT : Hid (L.take (k + 1) = L.take k ++ [L.getD k 0]) := Lib.hid (by rw [List.take_succ_eq_append_getElem HKL.out, List.getD_eq_getElem?_getD, List.getElem?_eq_getElem HKL.out]; rfl)
   generalize L.getD k 0 = y at *
   by_cases hy : n = y
   ·have heq : (n == y) = true := by simpa using hy
    have HM : Hid (n ∈ L) := Lib.hid (by rw [hy]; exact HG.out)
    clear hy
    go_wp2
    go_ret
    exact ⟨_, rfl, by rw [decide_eq_true HM.out]; exact decide_eq_true hk0, rfl⟩
   ·have heq : (n == y) = false := by simpa using hy
    have HNO2 : Hid (n ∉ L.take (k + 1)) := Lib.hid (by
     rw [HT.out, List.mem_append]
     rintro (h | h)
     ·exact HNO.out h
     ·rw [List.mem_singleton] at h
      exact hy h)
    clear hy
    go_wp2
    exact ⟨⟨k + 1, by omega, by go_num, HNO2, by first | rfl | trivial⟩, by simp [intOf] <;> omega⟩
  ·obtain rfl : k = m := by omega
   have HM : Hid (n ∉ L) := Lib.hid (by have h1 := HNO.out; rwa [List.take_of_length_le (by rw [HL.out]; exact Nat.le_refl _)] at h1)
   go_wp2
   go_ret
   exact ⟨_, rfl, by rw [decide_eq_false HM.out]; rfl, rfl⟩
set_option maxRecDepth 100000 in
theorem containsI_any (p : Option Addr) (m c : Nat) (L : List Int) (n : Int) (w : World) (h : Gs encI w p m L) (hm : m ≤ 2097152) :
 Calls Tryz.prog 118 #[.slice p m c, .int .i64 n] w fun e w' => e = .returned (.bool (decide (n ∈ L))) ∧ w' = w := by
 have HC := Lib.hid (indexI_any p m c L n w h hm)
 clear h hm
 go_enter Tryz.func118, Tryz.ntmps118
 go_wp2_with fail
 refine HC.out.mono ?_
 rintro e w2 ⟨k, rfl, h3, rfl⟩
 have H3 := Lib.hid h3
 clear h3
 go_wp2
 go_ret
 exact ⟨ret_bool H3.out, rfl⟩
set_option maxRecDepth 100000 in
theorem beside1_any (x s : Int) (b : Nat) (w : World) (h : w.cell? ⟨b, 0, none⟩ = some (.int .i64 s)) :
 Calls Tryz.prog 148 #[.int .i64 x, .pointer (some ⟨b, 0, none⟩)] w fun e w' => e = .returned (.bool (x != s)) ∧ w' = w := by
 go_enter Tryz.func148, Tryz.ntmps148
 go_wp2
 go_ret
 exact ⟨rfl, rfl⟩
set_option maxRecDepth 100000 in
theorem idxfI_any (p : Option Addr) (m c : Nat) (L : List Int) (s : Int) (b : Nat) (w : World) (h : Gs encI w p m L) (hs : w.cell? ⟨b, 0, none⟩ = some (.int .i64 s)) (hm : m ≤ 2097152) :
 Calls Tryz.prog 167 #[.slice p m c, .func (.func 148) #[] #[.pointer (some ⟨b, 0, none⟩)]] w fun e w' => ∃ k : Int, e = .returned (.int .i64 k) ∧ decide (0 ≤ k) = (L.any fun x => decide (x ≠ s)) ∧ w' = w := by
 have H := Lib.hid h
 have HL := Lib.hid h.1
 have HC := Lib.hid fun x => beside1_any x s b w hs
 clear h hs
 go_enter Tryz.func167, Tryz.ntmps167
 go_wp2
 go_loopw [8] (fun i wr => ∃ k : Nat, k ≤ m ∧ i = .int .i64 k ∧ Hid ((L.take k).any (fun x => decide (x ≠ s)) = false) ∧ wr = w) (fun i _ => m - (intOf i).toNat)
 case atStart => exact ⟨0, Nat.zero_le _, rfl, Lib.hid (by simp), rfl⟩
 case round =>
  obtain ⟨k, hk, rfl, HNO, rfl⟩ := hrel
  by_cases hlt : k < m
  ·obtain ⟨b2, off, rfl, c0⟩ := H.out.it k hlt
   have hkn : (k : Int) < (m : Int) := by omega
   have hk0 : (0 : Int) ≤ (k : Int) := by omega
   have HKL : Hid (k < L.length) := Lib.hid (by rw [HL.out]; exact hlt)
   have HG : Hid (L.getD k 0 ∈ L) := Lib.hid (by rw [List.getD_eq_getElem?_getD, List.getElem?_eq_getElem HKL.out]; exact List.getElem_mem _)
   have HT : Hid (L.take (k + 1) = L.take k ++ [L.getD k 0]) := Lib.hid (by rw [List.take_succ_eq_append_getElem HKL.out, List.getD_eq_getElem?_getD, List.getElem?_eq_getElem HKL.out]; rfl)
   generalize L.getD k 0 = y at *
   have HY := Lib.hid (HC.out y)
   by_cases hy : y = s
   ·have heq : (y != s) = false := by simpa using hy
    rw [heq] at HY
    have HNO2 : Hid ((L.take (k + 1)).any (fun x => decide (x ≠ s)) = false) := Lib.hid (by
     rw [HT.out, List.any_append, HNO.out]
     simp [hy])
    clear hy heq
    go_wp2_with (go_at_call 148; refine HY.out.mono ?_; rintro e w2 ⟨rfl, rfl⟩)
    exact ⟨⟨k + 1, by omega, by go_num, HNO2, by first | rfl | trivial⟩, by simp [intOf] <;> omega⟩
   ·have heq : (y != s) = true := by simpa using hy
    rw [heq] at HY
    have HM : Hid ((L.any fun x => decide (x ≠ s)) = true) := Lib.hid (List.any_eq_true.2 ⟨y, HG.out, by simpa using hy⟩)
    clear hy heq
    go_wp2_with (go_at_call 148; refine HY.out.mono ?_; rintro e w2 ⟨rfl, rfl⟩)
    go_ret
    exact ⟨_, rfl, by rw [HM.out]; exact decide_eq_true hk0, rfl⟩
  ·obtain rfl : k = m := by omega
   have HM : Hid ((L.any fun x => decide (x ≠ s)) = false) := Lib.hid (by have h1 := HNO.out; rwa [List.take_of_length_le (by rw [HL.out]; exact Nat.le_refl _)] at h1)
   go_wp2
   go_ret
   exact ⟨_, rfl, by rw [HM.out]; rfl, rfl⟩
set_option maxRecDepth 100000 in
theorem contfI_any (p : Option Addr) (m c : Nat) (L : List Int) (s : Int) (b : Nat) (w : World) (h : Gs encI w p m L) (hs : w.cell? ⟨b, 0, none⟩ = some (.int .i64 s)) (hm : m ≤ 2097152) :
 Calls Tryz.prog 147 #[.slice p m c, .func (.func 148) #[] #[.pointer (some ⟨b, 0, none⟩)]] w fun e w' => e = .returned (.bool (L.any fun x => decide (x ≠ s))) ∧ w' = w := by
 have HC := Lib.hid (idxfI_any p m c L s b w h hs hm)
 clear h hm hs
 generalize (L.any fun x => decide (x ≠ s)) = R at *
 go_enter Tryz.func147, Tryz.ntmps147
 go_wp2_with fail
 refine HC.out.mono ?_
 rintro e w2 ⟨k, rfl, h3, rfl⟩
 have H3 := Lib.hid h3
 clear h3
 go_wp2
 go_ret
 exact ⟨ret_bool H3.out, rfl⟩
set_option maxRecDepth 100000 in
theorem beside_any (p : Option Addr) (m c : Nat) (L : List Int) (s : Int) (w : World) (h : Gs encI w p m L) (hm : m ≤ 2097152) :
 Calls Tryz.prog 123 #[.slice p m c, .int .i64 s] w fun e w' => e = .returned (.bool (L.any fun x => decide (x ≠ s))) ∧ Below w.heap.size w w' := by
 have HB0 : Hid (Below w.heap.size w (w.alloc (.cells #[.int .i64 s] 3))) := Lib.hid ((Below.refl _ _).alloc (Nat.le_refl _) _)
 have HC := Lib.hid (contfI_any p m c L s w.heap.size _ (h.later HB0.out) (cell_of_row _ _ 0 _ _ _ (heap_alloc_new w (.cells #[.int .i64 s] 3))) hm)
 clear h hm
 generalize (L.any fun x => decide (x ≠ s)) = R at *
 go_enter Tryz.func123, Tryz.ntmps123
 go_wp2_with fail
 refine HC.out.mono ?_
 rintro e w2 ⟨rfl, rfl⟩
 go_wp2
 go_ret
 exact ⟨rfl, HB0.out⟩
set_option maxRecDepth 100000 in
theorem palive_any (e : Pe) (s : Value) (w : World) (h : Is w s e.ins) (hd : dok e.dg) (hn : e.ins.length ≤ 2097152) :
 Calls Tryz.prog 92 #[enV e s] w fun r w' => r = .returned (.bool (aliveB (decide (e.k = 5)) e.ins e.seg)) ∧ Below w.heap.size w w' := by
 obtain ⟨w0, hw0⟩ : ∃ W, w.alloc (.cells (enC e s) 59) = W := ⟨_, rfl⟩
 have HB0 : Hid (Below w.heap.size w w0) := Lib.hid (by rw [← hw0]; exact (Below.refl _ _).alloc (Nat.le_refl _) _)
 have hE : Em w0 w.heap.size e s := by rw [← hw0]; exact heap_alloc_new _ _
 obtain ⟨e0, e1, e2, cs⟩ := hE.cells hd.1
 obtain ⟨p, c, rfl, hs, _⟩ := h.later HB0.out
 have HC := Lib.hid (beside_any p e.ins.length c e.ins e.seg w0 hs hn)
 clear h hs hd hn hE
 obtain ⟨m, hm⟩ : ∃ m, e.ins.length = m := ⟨_, rfl⟩
 rw [hm] at HC cs
 unfold enV
 rw [hm]
 rw [hm] at hw0
 clear hm
 generalize enC e (Value.slice p m c) = MC at *
 by_cases hk : e.k = 5
 ·have hkt : (e.k != 5) = false := by simpa using hk
  have HV : Hid (aliveB (decide (e.k = 5)) e.ins e.seg = e.ins.any fun x => decide (x ≠ e.seg)) := Lib.hid (by rw [decide_eq_true hk]; rfl)
  rw [HV.out]
  clear hk HV
  generalize (e.ins.any fun x => decide (x ≠ e.seg)) = R at *
  go_enter Tryz.func92, Tryz.ntmps92
  go_wp2_with (go_at_call 123; refine HC.out.mono ?_; rintro e w2 ⟨rfl, hb2⟩; have HB2 := Lib.hid (below_step HB0.out hb2); clear hb2)
  go_ret
  exact ⟨rfl, HB2.out⟩
 ·have hkt : (e.k != 5) = true := by simpa using hk
  have HV : Hid (aliveB (decide (e.k = 5)) e.ins e.seg = true) := Lib.hid (by rw [decide_eq_false hk]; rfl)
  rw [HV.out]
  clear hk
  go_enter Tryz.func92, Tryz.ntmps92
  go_wp2
  go_ret
  exact ⟨rfl, HB0.out⟩
set_option maxRecDepth 100000 in
theorem palivet_any (e : Pt) (s : Value) (w : World) (h : Is w s e.ins) (hd : dok e.dg) (hn : e.ins.length ≤ 2097152) :
 Calls Tryz.prog 93 #[tnV e s] w fun r w' => r = .returned (.bool (aliveB e.gone e.ins e.seg)) ∧ Below w.heap.size w w' := by
 obtain ⟨w0, hw0⟩ : ∃ W, w.alloc (.cells (tnC e s) 64) = W := ⟨_, rfl⟩
 have HB0 : Hid (Below w.heap.size w w0) := Lib.hid (by rw [← hw0]; exact (Below.refl _ _).alloc (Nat.le_refl _) _)
 have hE : Tn w0 w.heap.size e s := by rw [← hw0]; exact heap_alloc_new _ _
 obtain ⟨e0, e1, e2, cs⟩ := hE.cells hd.1
 obtain ⟨p, c, rfl, hs, _⟩ := h.later HB0.out
 have HC := Lib.hid (beside_any p e.ins.length c e.ins e.seg w0 hs hn)
 clear h hs hd hn hE
 obtain ⟨m, hm⟩ : ∃ m, e.ins.length = m := ⟨_, rfl⟩
 rw [hm] at HC cs
 unfold tnV
 rw [hm]
 rw [hm] at hw0
 clear hm
 generalize tnC e (Value.slice p m c) = MC at *
 have HV : Hid (aliveB e.gone e.ins e.seg = (!e.gone || e.ins.any fun x => decide (x ≠ e.seg))) := Lib.hid rfl
 rw [HV.out]
 obtain ⟨g, hg⟩ : ∃ g, e.gone = g := ⟨_, rfl⟩
 rw [hg] at e1 ⊢
 clear HV hg
 cases g
 ·go_enter Tryz.func93, Tryz.ntmps93
  go_wp2
  go_ret
  exact ⟨rfl, HB0.out⟩
 ·rw [Bool.not_true, Bool.false_or]
  generalize (e.ins.any fun x => decide (x ≠ e.seg)) = R at *
  go_enter Tryz.func93, Tryz.ntmps93
  go_wp2_with (go_at_call 123; refine HC.out.mono ?_; rintro e w2 ⟨rfl, hb2⟩; have HB2 := Lib.hid (below_step HB0.out hb2); clear hb2)
  go_ret
  exact ⟨rfl, HB2.out⟩
end Go.Proofs.YtpfbfhigelbfcaaGreat

