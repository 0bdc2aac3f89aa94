/- Walks of package digest: slices.BinarySearchFunc at digests, Has. -/
import Derived.Test.YtlggbicjgddnaaaDoorDigF
import Derived.Shelf.SlSortCmp.QuietGrown
namespace Go.Proofs.YtlggbicjgddnaaaDoor
set_option linter.unusedVariables false
open Go.RowKit Go.Lib

theorem drises_lt {L : List (List Int)} (h : drises L) : ∀ i j, i < j → j < L.length → dlt (L.getD i []) (L.getD j []) = true := by
  induction L with
  | nil => intro i j _ hj; simp at hj
  | cons x xs ih =>
    intro i j hij hj
    obtain ⟨j', rfl⟩ : ∃ j', j = j' + 1 := ⟨j - 1, by omega⟩
    rw [List.length_cons] at hj
    cases i with
    | zero =>
      rw [List.getD_cons_zero, List.getD_cons_succ]
      refine h.1 _ ?_
      rw [List.getD_eq_getElem?_getD, List.getElem?_eq_getElem (by omega)]
      exact List.getElem_mem _
    | succ i =>
      rw [List.getD_cons_succ, List.getD_cons_succ]
      exact ih h.2 i j' (by omega) (by omega)
theorem dcmp_neg {a b : List Int} : dcmp a b < 0 ↔ dlt a b = true := by
  unfold dcmp
  cases dlt a b
  · rw [if_neg (by simp)]; split <;> simp
  · simp
theorem below_grown {w wr : World} {B : Nat} (h : Below B w wr) (hB : B ≤ wr.heap.size) (q : Nat) (os : Array Obj) : Below B w (Go.Sort.grow (wr.drewN q) os) :=
  h.trans ((below_grow wr q os).mono hB)

set_option maxRecDepth 100000 in
set_option maxHeartbeats 1000000 in
theorem search_any (p : Option Addr) (n cap : Nat) (L : List (List Int)) (d : List Int) (w : World) (h : Ds w p n L) (hd : dok d) (hr : drises L) (hn : n ≤ 1048576) :
    Calls Tryd.prog 34 #[.slice p n cap, .agg (bcs d), .func (.func 14) #[] #[]] w fun e w' =>
      ∃ (i : Nat) (b : Bool), e = .returned (.tuple #[.int .i64 (i : Int), .bool b]) ∧ i ≤ n ∧ (∀ t, t < i → dlt (L.getD t []) d = true) ∧ (∀ t, i ≤ t → t < n → dlt (L.getD t []) d = false) ∧ Below w.heap.size w w' := by
  have H := Lib.hid h
  have HD := Lib.hid hd
  have HR : Hid (∀ i j, i < j → j < n → dlt (L.getD i []) (L.getD j []) = true) := Lib.hid fun i j h1 h2 => drises_lt hr i j h1 (by rw [h.1]; exact h2)
  have HB0 : Hid (Below w.heap.size w (w.alloc (.cells (bcs d) 24))) := Lib.hid ((Below.refl _ _).alloc (Nat.le_refl _) _)
  have HY0 : Hid (Yw (w.alloc (.cells (bcs d) 24)) w.heap.size 24 d) := Lib.hid (heap_alloc_new _ _)
  clear h hd hr
  go_enter Tryd.func34, Tryd.ntmps34
  go_wp2
  generalize w.alloc (.cells (bcs d) 24) = w0 at *
  go_loopw [9, 10] (fun i j wr => ∃ lo hi : Nat, lo ≤ hi ∧ hi ≤ n ∧ i = .int .i64 (lo : Int) ∧ j = .int .i64 (hi : Int) ∧ Hid ((∀ t, t < lo → dlt (L.getD t []) d = true) ∧ (∀ t, hi ≤ t → t < n → dlt (L.getD t []) d = false)) ∧ Hid (Yw wr w.heap.size 24 d) ∧ Hid (Below w.heap.size w wr)) (fun i j _ => (intOf j).toNat - (intOf i).toNat)
  case atStart => exact ⟨0, n, by omega, by omega, rfl, rfl, Lib.hid ⟨fun t ht => absurd ht (Nat.not_lt_zero _), fun t h1 h2 => by omega⟩, HY0, HB0⟩
  case round =>
    clear HY0 HB0
    obtain ⟨lo, hi, hlh, hin, rfl, rfl, HI, HY, HB⟩ := hrel
    by_cases hlt : lo < hi
    · obtain ⟨m, hme⟩ : ∃ m, m = (lo + hi) / 2 := ⟨_, rfl⟩
      have hmn : m < n := by omega
      have hm1 : lo ≤ m := by omega
      have hm2 : m < hi := by omega
      have hme2 : ((lo : Int) + (hi : Int)) / 2 = (m : Int) := by omega
      clear hme
      have hds := H.out.later HB.out
      have hok := hds.ok _ hmn
      have hpp : ∃ b off, p = some ⟨b, off, none⟩ := by
        rcases hds.2.2 with h0 | ⟨b, off, hp, _⟩
        · omega
        · exact ⟨b, off, hp⟩
      obtain ⟨b, off, rfl⟩ := hpp
      have hbg : ∀ q os, Below wr.heap.size wr (Go.Sort.grow (wr.drewN q) os) := below_grow wr
      have HL1 : Hid (∀ W, (∃ p : GrownBy, W = Go.Sort.grow (wr.drewN p.n) p.os) → (Instr.loadAt 24 (.pointer (some ⟨b, off + m * 32, none⟩))).run Tryd.prog W = .ok (.agg (bcs (L.getD (m) []))) W) := Lib.hid (by rintro W ⟨q, rfl⟩; exact (hds.later (hbg _ _)).load _ hmn)
      have HL2 : Hid (∀ W, (∃ p : GrownBy, W = Go.Sort.grow (wr.drewN p.n) p.os) → (Instr.loadAt 24 (.pointer (some ⟨w.heap.size, 0, none⟩))).run Tryd.prog W = .ok (.agg (bcs d)) W) := Lib.hid (by rintro W ⟨q, rfl⟩; exact (HY.out.later (hbg _ _)).load HD.out.1)
      have HC : Hid (∀ n os, Calls Tryd.prog 14 #[.agg (bcs (L.getD (m) [])), .agg (bcs d)] (Go.Sort.grow (wr.drewN n) os) _) := Lib.hid fun n os => cmp_grow (L.getD (m) []) d _ hok HD.out
      have HNEG := Lib.hid (dcmp_neg (a := L.getD (m) []) (b := d))
      generalize dcmp (L.getD (m) []) d = c at HC HNEG
      have HUP : Hid (dlt (L.getD (m) []) d = true → ∀ t, t < m + 1 → dlt (L.getD t []) d = true) := Lib.hid fun h t ht => by
        by_cases e : t = m
        · rw [e]; exact h
        · exact dlt_trans (HR.out t _ (by omega) hmn) h
      have HDN : Hid (dlt (L.getD (m) []) d = false → ∀ t, m ≤ t → t < n → dlt (L.getD t []) d = false) := Lib.hid fun h t ht htn => by
        by_cases e : t = m
        · rw [e]; exact h
        · cases h2 : dlt (L.getD t []) d
          · rfl
          · rw [dlt_trans (HR.out _ t (by omega) htn) h2] at h; cases h
      generalize L.getD (m) [] = x at HL1 HC HNEG HUP HDN
      clear hds hok hbg
      have HM1 := Lib.hid hme2
      go_wp2
      refine wp_region_quiet_grown (by kernel_rfl) (by kernel_rfl) ?_
      repeat (first | (refine quiet_want rfl fun K hK => quiet_load 24 _ rfl _ rfl _ (HL1).out (hK _ ?_); clear hK K) | (refine quiet_want rfl fun K hK => quiet_load 24 _ rfl _ rfl _ (HL2).out (hK _ ?_); clear hK K) | (quiet_step (first | (go_at_call 14; refine Calls.grown_of (HC.out _ _)))))
      refine wpQuiet_nil ?_
      intro _ hw'
      obtain ⟨⟨nq, osq⟩, hw''⟩ := hw'
      subst hw''
      have HY2 := Lib.hid (HY.out.later (below_grow wr nq osq))
      have HB2 : Hid (Below w.heap.size w (Go.Sort.grow (wr.drewN nq) osq)) := Lib.hid (below_grown HB.out HB.out.size nq osq)
      clear HL1 HL2 HC HY HB
      generalize Go.Sort.grow (wr.drewN nq) osq = wd at *
      by_cases hc : c < 0
      · have HI2 : Hid ((∀ t, t < m + 1 → dlt (L.getD t []) d = true) ∧ (∀ t, hi ≤ t → t < n → dlt (L.getD t []) d = false)) := Lib.hid ⟨HUP.out (HNEG.out.1 hc), HI.out.2⟩
        clear HUP HDN HNEG HI
        go_wp2
        refine ⟨?_, by simp [intOf]; omega⟩
        first
          | exact ⟨m + 1, hi, by omega, hin, by go_num, rfl, HI2, HY2, HB2⟩
          | ((repeat apply Exists.intro); refine ⟨?_, rfl⟩; exact ⟨m + 1, hi, by omega, hin, by go_num, rfl, HI2, HY2, HB2⟩)
      · have HI2 : Hid ((∀ t, t < lo → dlt (L.getD t []) d = true) ∧ (∀ t, m ≤ t → t < n → dlt (L.getD t []) d = false)) := Lib.hid ⟨HI.out.1, HDN.out (by
          cases h2 : dlt x d
          · rfl
          · exact absurd (HNEG.out.2 h2) hc)⟩
        clear HUP HDN HNEG HI
        go_wp2
        refine ⟨?_, by simp [intOf]; omega⟩
        first
          | exact ⟨lo, m, by omega, by omega, rfl, by go_num, HI2, HY2, HB2⟩
          | ((repeat apply Exists.intro); refine ⟨?_, rfl⟩; exact ⟨lo, m, by omega, by omega, rfl, by go_num, HI2, HY2, HB2⟩)
    · obtain rfl : lo = hi := by omega
      by_cases hen : lo < n
      · have hds := H.out.later HB.out
        have hok := hds.ok _ hen
        have hpp : ∃ b off, p = some ⟨b, off, none⟩ := by
          rcases hds.2.2 with h0 | ⟨b, off, hp, _⟩
          · omega
          · exact ⟨b, off, hp⟩
        obtain ⟨b, off, rfl⟩ := hpp
        have hbg : ∀ q os, Below wr.heap.size wr (Go.Sort.grow (wr.drewN q) os) := below_grow wr
        have HL1 : Hid (∀ W, (∃ p : GrownBy, W = Go.Sort.grow (wr.drewN p.n) p.os) → (Instr.loadAt 24 (.pointer (some ⟨b, off + lo * 32, none⟩))).run Tryd.prog W = .ok (.agg (bcs (L.getD lo []))) W) := Lib.hid (by rintro W ⟨q, rfl⟩; exact (hds.later (hbg _ _)).load _ hen)
        have HL2 : Hid (∀ W, (∃ p : GrownBy, W = Go.Sort.grow (wr.drewN p.n) p.os) → (Instr.loadAt 24 (.pointer (some ⟨w.heap.size, 0, none⟩))).run Tryd.prog W = .ok (.agg (bcs d)) W) := Lib.hid (by rintro W ⟨q, rfl⟩; exact (HY.out.later (hbg _ _)).load HD.out.1)
        have HC : Hid (∀ n os, Calls Tryd.prog 14 #[.agg (bcs (L.getD lo [])), .agg (bcs d)] (Go.Sort.grow (wr.drewN n) os) _) := Lib.hid fun n os => cmp_grow (L.getD lo []) d _ hok HD.out
        generalize dcmp (L.getD lo []) d = c at HC
        generalize L.getD lo [] = x at HL1 HC
        have hdl : decide ((lo : Int) < (n : Int)) = true := by simp; omega
        clear hds hok hbg
        go_wp2
        refine wp_region_quiet_grown (by kernel_rfl) (by kernel_rfl) ?_
        repeat (first | (refine wpQuiet_step (fun K hK => ?_); rw [if_pos (by rfl)]; refine quiet_load 24 _ rfl _ rfl _ (HL1).out (hK _ ?_); clear hK K) | (refine wpQuiet_step (fun K hK => ?_); rw [if_pos (by rfl)]; refine quiet_load 24 _ rfl _ rfl _ (HL2).out (hK _ ?_); clear hK K) | (quiet_step (first | (go_at_call 14; refine Calls.grown_of (HC.out _ _)))))
        refine wpQuiet_nil ?_
        intro _ hw'
        obtain ⟨⟨nq, osq⟩, hw''⟩ := hw'
        subst hw''
        go_wp2
        go_ret2
        exact ⟨lo, _, rfl, by omega, HI.out.1, HI.out.2, below_grown HB.out HB.out.size nq osq⟩
      · have hdl : decide ((lo : Int) < (n : Int)) = false := by simp; omega
        go_wp2
        go_quiet (fail)
        go_wp2
        go_ret2
        exact ⟨lo, _, rfl, by omega, HI.out.1, HI.out.2, below_drewN HB.out _⟩

set_option maxRecDepth 100000 in
set_option maxHeartbeats 1000000 in
theorem has_ok : HasOk := by
  intro p n cap L d w h hpc hnc hcm hn hd hr
  have H := Lib.hid h
  have HD := Lib.hid hd
  have HR : Hid (∀ i j, i < j → j < n → dlt (L.getD i []) (L.getD j []) = true) := Lib.hid fun i j h1 h2 => drises_lt hr i j h1 (by rw [h.1]; exact h2)
  have HB0 : Hid (Below w.heap.size w (w.alloc (.cells (bcs d) 24))) := Lib.hid ((Below.refl _ _).alloc (Nat.le_refl _) _)
  have HY0 : Hid (Yw (w.alloc (.cells (bcs d) 24)) w.heap.size 24 d) := Lib.hid (heap_alloc_new _ _)
  have HC : Hid (∀ W, Below w.heap.size w W → Calls Tryd.prog 34 #[.slice p n cap, .agg (bcs d), .func (.func 14) #[] #[]] W _) := Lib.hid fun W hb => search_any p n cap L d W (h.later hb) hd hr hn
  clear h hpc hnc hcm hd hr
  go_enter Tryd.func19, Tryd.ntmps19
  have HSZ : Hid ((Tryd.prog.info? 24).map (·.size) = some (bcs d).size) := Lib.hid (by rw [bcs_size, HD.out.1]; exact size32)
  go_wp2_with (refine wpList_load_row rfl 24 _ rfl w.heap.size rfl 24 _ (0, 0) _ HY0.out Tryd.underlying24 rfl HSZ.out ?_)
  refine (HC.out _ HB0.out).mono ?_
  rintro e w1 ⟨i, b, rfl, hin, hlo, hhi, hb1⟩
  have HLO := Lib.hid hlo
  have HHI := Lib.hid hhi
  have HB1 := Lib.hid (below_step HB0.out hb1)
  have HY1 := Lib.hid (HY0.out.later hb1)
  clear hlo hhi hb1 HB0 HY0
  by_cases hi : i < n
  · have hds := H.out.later HB1.out
    have hok := hds.ok i hi
    have hpp : ∃ b off, p = some ⟨b, off, none⟩ := by
      rcases hds.2.2 with h0 | ⟨b, off, hp, _⟩
      · omega
      · exact ⟨b, off, hp⟩
    obtain ⟨b, off, rfl⟩ := hpp
    have hbd : ∀ m, Below w1.heap.size w1 (w1.drewN m) := fun m => below_drewN (Below.refl _ _) _
    have HL1 : Hid (∀ W, (∃ m, W = w1.drewN m) → (Instr.loadAt 24 (.pointer (some ⟨b, off + i * 32, none⟩))).run Tryd.prog W = .ok (.agg (bcs (L.getD i []))) W) := Lib.hid (by rintro W ⟨m, rfl⟩; exact (hds.later (hbd m)).load i hi)
    have HL2 : Hid (∀ W, (∃ m, W = w1.drewN m) → (Instr.loadAt 24 (.pointer (some ⟨w.heap.size, 0, none⟩))).run Tryd.prog W = .ok (.agg (bcs d)) W) := Lib.hid (by rintro W ⟨m, rfl⟩; exact (HY1.out.later (hbd m)).load HD.out.1)
    have heq := fun W => digest_eq (L.getD i []) d hok HD.out W
    have HF : Hid (decide (L.getD i [] = d) = decide (d ∈ L)) := Lib.hid (by
      have hl := H.out.1
      have hg : ∀ t, (ht : t < n) → L.getD t [] ∈ L := fun t ht => by
        rw [List.getD_eq_getElem?_getD, List.getElem?_eq_getElem (by omega)]; exact List.getElem_mem _
      rw [decide_eq_decide]
      constructor
      · intro h; rw [← h]; exact hg i hi
      · intro h
        obtain ⟨t, ht, rfl⟩ := List.getElem_of_mem h
        have e : L[t] = L.getD t [] := by rw [List.getD_eq_getElem?_getD, List.getElem?_eq_getElem ht]; rfl
        rcases Nat.lt_trichotomy t i with h1 | h1 | h1
        · have := HLO.out t h1
          rw [e, dlt_self] at this; cases this
        · rw [e, h1]
        · have h2 := HR.out i t h1 (by omega)
          have h3 := HHI.out i (Nat.le_refl _) hi
          rw [e, h2] at h3; cases h3)
    generalize decide (L.getD i [] = d) = bx at heq HF
    generalize L.getD i [] = x at HL1 heq
    have hdl : decide ((i : Int) < (n : Int)) = true := by simp; omega
    clear hds hok hbd
    go_wp2
    refine wp_region_quiet_lit (by kernel_rfl) (by kernel_rfl) ?_
    repeat (first | (refine wpQuiet_step (fun K hK => ?_); rw [if_pos (by rfl)]; refine quiet_load 24 _ rfl _ rfl _ (HL1).out (hK _ ?_); clear hK K) | (refine wpQuiet_step (fun K hK => ?_); rw [if_pos (by rfl)]; refine quiet_load 24 _ rfl _ rfl _ (HL2).out (hK _ ?_); clear hK K) | (quiet_step (fail)))
    refine wpQuiet_nil ?_
    intro _ hw'
    obtain ⟨nq, hw''⟩ := hw'
    subst hw''
    go_wp2
    go_ret
    exact ⟨ret_bool HF.out, below_drewN HB1.out _⟩
  · have hdl : decide ((i : Int) < (n : Int)) = false := by simp; omega
    have HF : Hid (decide (d ∈ L) = false) := Lib.hid (by
      rw [decide_eq_false_iff_not]
      intro h
      obtain ⟨t, ht, rfl⟩ := List.getElem_of_mem h
      have hl := H.out.1
      have e : L[t] = L.getD t [] := by rw [List.getD_eq_getElem?_getD, List.getElem?_eq_getElem ht]; rfl
      have := HLO.out t (by omega)
      rw [e, dlt_self] at this; cases this)
    go_wp2
    go_quiet (fail)
    go_wp2
    go_ret
    exact ⟨ret_bool HF.out.symm, below_drewN HB1.out _⟩
end Go.Proofs.YtlggbicjgddnaaaDoor
