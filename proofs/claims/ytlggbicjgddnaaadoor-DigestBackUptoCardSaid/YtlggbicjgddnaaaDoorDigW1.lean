/- Walks of the reference of layer 6: Less, Has, Same. -/
import Derived.Test.YtlggbicjgddnaaaDoorDig
import Derived.Test.YtlggbicjgddnaaaDoorDigP
namespace Go.Proofs.YtlggbicjgddnaaaDoor
set_option linter.unusedVariables false
open Go.RowKit Go.Lib

set_option maxRecDepth 100000 in
theorem rless_any (a b : List Int) (w : World) (ha : dok a) (hb : dok b) :
    Calls Tryd.prog 15 #[.agg (bcs a), .agg (bcs b)] w fun e w' => e = .returned (.bool (dlt a b)) ∧ Below w.heap.size w w' := by
  have HA := Lib.hid ha
  have HB := Lib.hid hb
  have HB0 : Hid (Below w.heap.size w ((w.alloc (.cells (bcs a) 24)).alloc (.cells (bcs b) 24))) := Lib.hid (((Below.refl _ _).alloc (Nat.le_refl _) _).alloc (by simp) _)
  have HYA : Hid (Yw ((w.alloc (.cells (bcs a) 24)).alloc (.cells (bcs b) 24)) w.heap.size 24 a) := Lib.hid (Yw.later (w := w.alloc (.cells (bcs a) 24)) (heap_alloc_new _ _) ((Below.refl _ _).alloc (Nat.le_refl _) _))
  have HYB : Hid (Yw ((w.alloc (.cells (bcs a) 24)).alloc (.cells (bcs b) 24)) (w.heap.size + 1) 24 b) := Lib.hid (by
    have h := heap_alloc_new (w.alloc (.cells (bcs a) 24)) (.cells (bcs b) 24)
    rw [World.size_alloc] at h
    exact h)
  clear ha hb
  go_enter Tryd.func15, Tryd.ntmps15
  go_wp2
  generalize (w.alloc (.cells (bcs a) 24)).alloc (.cells (bcs b) 24) = w0 at *
  go_loopw [5] (fun i wr => ∃ k : Nat, k ≤ 32 ∧ i = .int .i64 (k : Int) ∧ Hid (a.take k = b.take k) ∧ Hid (Yw wr w.heap.size 24 a) ∧ Hid (Yw wr (w.heap.size + 1) 24 b) ∧ Hid (Below w.heap.size w wr)) (fun i _ => 32 - (intOf i).toNat)
  case atStart => exact ⟨0, by omega, rfl, Lib.hid (by simp), HYA, HYB, HB0⟩
  case round =>
    obtain ⟨k, hk, rfl, ht, hya, hyb, hbl⟩ := hrel
    by_cases hlt : k < 32
    · have hA := HA.out.1
      have hB := HB.out.1
      have ca := hya.out.cell k (by omega)
      have cb := hyb.out.cell k (by omega)
      obtain ⟨x, hx⟩ : ∃ x, a.getD k 0 = x := ⟨_, rfl⟩
      obtain ⟨y, hy⟩ : ∃ y, b.getD k 0 = y := ⟨_, rfl⟩
      have HNE : Hid (x ≠ y → dlt a b = decide (x < y)) := Lib.hid fun h => by
        have h1 := dlt_at (k := k) ht.out (by omega) (by omega) (by rw [hx, hy]; exact h)
        rw [hx, hy] at h1
        exact h1
      have HEQ : Hid (x = y → a.take (k + 1) = b.take (k + 1)) := Lib.hid fun h => take_step (by omega) (by omega) ht.out (by
        rw [← hx, ← hy, List.getD_eq_getElem?_getD, List.getD_eq_getElem?_getD] at h
        exact h)
      have HCA : Hid (∀ W, Yw W w.heap.size 24 a → W.cell? ⟨w.heap.size, k, none⟩ = some (.int .u8 x)) := Lib.hid fun W h => by rw [← hx]; exact h.cell k (by omega)
      have HCB : Hid (∀ W, Yw W (w.heap.size + 1) 24 b → W.cell? ⟨w.heap.size + 1, k, none⟩ = some (.int .u8 y)) := Lib.hid fun W h => by rw [← hy]; exact h.cell k (by omega)
      rw [hx] at ca
      rw [hy] at cb
      clear hx hy hA hB
      go_wp2
      go_quiet (fail)
      have hbd : Below wr.heap.size wr (wr.drewN nq) := below_drewN (Below.refl _ _) _
      have HYA2 := Lib.hid (hya.out.later hbd)
      have HYB2 := Lib.hid (hyb.out.later hbd)
      have HBL2 : Hid (Below w.heap.size w (wr.drewN nq)) := Lib.hid (below_step hbl.out hbd)
      have HA := Lib.hid HA.out.1
      have HB := Lib.hid HB.out.1
      clear hbd hya hyb hbl ca cb
      generalize wr.drewN nq = wd at *
      have ca : wd.cell? ⟨w.heap.size, k, none⟩ = some (.int .u8 x) := HCA.out wd HYA2.out
      have cb : wd.cell? ⟨w.heap.size + 1, k, none⟩ = some (.int .u8 y) := HCB.out wd HYB2.out
      by_cases hxy : x = y
      · have hb1 : (x != y) = false := by simpa using hxy
        go_wp2
        exact ⟨⟨k + 1, by omega, by go_num, Lib.hid (HEQ.out hxy), HYA2, HYB2, HBL2⟩, by simp [intOf] <;> omega⟩
      · have hb1 : (x != y) = true := by simpa using hxy
        go_wp2
        go_quiet (fail)
        go_wp2
        go_ret
        refine ⟨ret_bool (HNE.out hxy).symm, ?_⟩
        exact below_drewN HBL2.out _
    · obtain rfl : k = 32 := by omega
      have HF : Hid (dlt a b = false) := Lib.hid (by
        have h := ht.out
        rw [List.take_of_length_le (by rw [HA.out.1]; omega), List.take_of_length_le (by rw [HB.out.1]; omega)] at h
        rw [h, dlt_self])
      go_wp2
      go_ret
      exact ⟨ret_bool HF.out.symm, hbl.out⟩

set_option maxRecDepth 100000 in
theorem rhas_any (p : Option Addr) (n cap : Nat) (L : List (List Int)) (d : List Int) (w : World) (h : Ds w p n L) (hd : dok d) (hn : n ≤ 1048576) :
    Calls Tryd.prog 20 #[.slice p n cap, .agg (bcs d)] w fun e w' => e = .returned (.bool (decide (d ∈ L))) ∧ Below w.heap.size w w' := by
  have H := Lib.hid h
  have HD := Lib.hid hd
  have HB0 : Hid (Below w.heap.size w (w.alloc (.cells (bcs d) 24))) := Lib.hid ((Below.refl _ _).alloc (Nat.le_refl _) _)
  have HY0 : Hid (Yw (w.alloc (.cells (bcs d) 24)) w.heap.size 24 d) := Lib.hid (heap_alloc_new _ _)
  clear h hd
  go_enter Tryd.func20, Tryd.ntmps20
  go_wp2
  generalize w.alloc (.cells (bcs d) 24) = w0 at *
  go_loopw [5] (fun i wr => ∃ k : Nat, k ≤ n ∧ i = .int .i64 (k : Int) ∧ Hid (d ∉ L.take k) ∧ Hid (Yw wr w.heap.size 24 d) ∧ Hid (Below w.heap.size w wr)) (fun i _ => n - (intOf i).toNat)
  case atStart => exact ⟨0, by omega, rfl, Lib.hid (by simp), HY0, HB0⟩
  case round =>
    obtain ⟨k, hk, rfl, hm, hy, hb⟩ := hrel
    by_cases hlt : k < n
    · have hds := H.out.later hb.out
      have hok := hds.ok k hlt
      have hpp : ∃ b off, p = some ⟨b, off, none⟩ := by
        rcases hds.2.2 with h0 | ⟨b, off, hp, _⟩
        · omega
        · exact ⟨b, off, hp⟩
      obtain ⟨b, off, rfl⟩ := hpp
      have HL1 : Hid (∀ W, (∃ m, W = wr.drewN m) → (Instr.loadAt 24 (.pointer (some ⟨b, off + k * 32, none⟩))).run Tryd.prog W = .ok (.agg (bcs (L.getD k []))) W) := Lib.hid (by rintro W ⟨m, rfl⟩; exact (hds.later (below_drewN (Below.refl _ _) _)).load k hlt)
      have HL2 : Hid (∀ W, (∃ m, W = wr.drewN m) → (Instr.loadAt 24 (.pointer (some ⟨w.heap.size, 0, none⟩))).run Tryd.prog W = .ok (.agg (bcs d)) W) := Lib.hid (by rintro W ⟨m, rfl⟩; exact (hy.out.later (below_drewN (Below.refl _ _) _)).load HD.out.1)
      have heq := fun W => digest_eq (L.getD k []) d hok HD.out W
      obtain ⟨x, hx⟩ : ∃ x, L.getD k [] = x := ⟨_, rfl⟩
      have HX := Lib.hid hx
      rw [hx] at HL1 heq
      clear hds hok hx
      go_wp2
      refine wp_region_quiet_lit (by kernel_rfl) (by kernel_rfl) ?_
      repeat (first | (refine quiet_want rfl fun K hK => quiet_load 24 _ rfl _ rfl _ (HL1).out (hK _ ?_); clear hK K) | (refine quiet_want rfl fun K hK => quiet_load 24 _ rfl _ rfl _ (HL2).out (hK _ ?_); clear hK K) | (quiet_step (fail)))
      refine wpQuiet_nil ?_
      intro _ hw'
      obtain ⟨nq, hw''⟩ := hw'
      subst hw''
      have hbd : Below wr.heap.size wr (wr.drewN nq) := below_drewN (Below.refl _ _) _
      have HY2 := Lib.hid (hy.out.later hbd)
      have HB2 : Hid (Below w.heap.size w (wr.drewN nq)) := Lib.hid (below_step hb.out hbd)
      clear hbd hy hb heq
      generalize wr.drewN nq = wd at *
      by_cases hxd : x = d
      · have hT : decide (x = d) = true := by simpa using hxd
        have HF : Hid (decide (d ∈ L) = true) := Lib.hid (by
          have : d ∈ L := by
            rw [← hxd, ← HX.out, List.getD_eq_getElem?_getD, List.getElem?_eq_getElem (by rw [H.out.1]; exact hlt)]
            exact List.getElem_mem _
          simpa using this)
        go_wp2
        go_ret
        exact ⟨ret_bool HF.out.symm, HB2.out⟩
      · have hT : decide (x = d) = false := by simpa using hxd
        have HM2 : Hid (d ∉ L.take (k + 1)) := Lib.hid (by
          rw [List.take_succ_eq_append_getElem (by rw [H.out.1]; exact hlt)]
          intro hmem
          rcases List.mem_append.1 hmem with h | h
          · exact hm.out h
          · rw [List.mem_singleton] at h
            apply hxd
            rw [h, ← HX.out, List.getD_eq_getElem?_getD, List.getElem?_eq_getElem (by rw [H.out.1]; exact hlt)]
            rfl)
        go_wp2
        exact ⟨⟨k + 1, by omega, by go_num, HM2, HY2, HB2⟩, by simp [intOf] <;> omega⟩
    · obtain rfl : k = n := by omega
      have HF : Hid (decide (d ∈ L) = false) := Lib.hid (by
        have h := hm.out
        rw [List.take_of_length_le (by rw [H.out.1]; omega)] at h
        simpa using h)
      go_wp2
      go_ret
      exact ⟨ret_bool HF.out.symm, hb.out⟩

set_option maxRecDepth 100000 in
theorem rsame_any (p q : Option Addr) (n m cap cap' : Nat) (L M : List (List Int)) (w : World) (h : Ds w p n L) (h' : Ds w q m M) (hn : n ≤ maxLen) (hm : m ≤ maxLen) :
    Calls Tryd.prog 17 #[.slice p n cap, .slice q m cap'] w fun e w' => e = .returned (.bool (decide (L = M))) ∧ Below w.heap.size w w' := by
  have H := Lib.hid h
  have H' := Lib.hid h'
  have HB0 : Hid (Below w.heap.size w w) := Lib.hid (Below.refl _ _)
  unfold maxLen at hn hm
  clear h h'
  by_cases hnm : n = m
  · subst hnm
    have e1 : (((n : Nat) : Int) != (n : Int)) = false := by simp
    go_enter Tryd.func17, Tryd.ntmps17
    go_wp2
    go_loopw [5] (fun i wr => ∃ k : Nat, k ≤ n ∧ i = .int .i64 (k : Int) ∧ Hid (L.take k = M.take k) ∧ Hid (Below w.heap.size w wr)) (fun i _ => n - (intOf i).toNat)
    case atStart => exact ⟨0, by omega, rfl, Lib.hid (by simp), HB0⟩
    case round =>
      obtain ⟨k, hk, rfl, ht, hb⟩ := hrel
      by_cases hlt : k < n
      · have hds := H.out.later hb.out
        have hds' := H'.out.later hb.out
        have hok := hds.ok k hlt
        have hok' := hds'.ok k hlt
        have hpp : ∃ b off, p = some ⟨b, off, none⟩ := by
          rcases hds.2.2 with h0 | ⟨b, off, hp, _⟩
          · omega
          · exact ⟨b, off, hp⟩
        have hqq : ∃ b off, q = some ⟨b, off, none⟩ := by
          rcases hds'.2.2 with h0 | ⟨b, off, hp, _⟩
          · omega
          · exact ⟨b, off, hp⟩
        obtain ⟨b, off, rfl⟩ := hpp
        obtain ⟨b', off', rfl⟩ := hqq
        have HL1 : Hid (∀ W, (∃ m, W = wr.drewN m) → (Instr.loadAt 24 (.pointer (some ⟨b, off + k * 32, none⟩))).run Tryd.prog W = .ok (.agg (bcs (L.getD k []))) W) := Lib.hid (by rintro W ⟨m, rfl⟩; exact (hds.later (below_drewN (Below.refl _ _) _)).load k hlt)
        have HL2 : Hid (∀ W, (∃ m, W = wr.drewN m) → (Instr.loadAt 24 (.pointer (some ⟨b', off' + k * 32, none⟩))).run Tryd.prog W = .ok (.agg (bcs (M.getD k []))) W) := Lib.hid (by rintro W ⟨m, rfl⟩; exact (hds'.later (below_drewN (Below.refl _ _) _)).load k hlt)
        have heq := fun W => digest_eq (L.getD k []) (M.getD k []) hok hok' W
        obtain ⟨x, hx⟩ : ∃ x, L.getD k [] = x := ⟨_, rfl⟩
        obtain ⟨y, hy⟩ : ∃ y, M.getD k [] = y := ⟨_, rfl⟩
        have HX : Hid (x = y → L.take (k + 1) = M.take (k + 1)) := Lib.hid fun h => by
          have h1 : k < L.length := by rw [H.out.1]; exact hlt
          have h2 : k < M.length := by rw [H'.out.1]; exact hlt
          rw [List.take_succ_eq_append_getElem h1, List.take_succ_eq_append_getElem h2, ht.out]
          rw [← hx, ← hy, List.getD_eq_getElem?_getD, List.getD_eq_getElem?_getD, List.getElem?_eq_getElem h1, List.getElem?_eq_getElem h2] at h
          congr 2
        have HN : Hid (x ≠ y → decide (L = M) = false) := Lib.hid fun h => by
          rw [decide_eq_false_iff_not]
          intro e; apply h; rw [← hx, ← hy, e]
        rw [hx] at HL1 heq
        rw [hy] at HL2 heq
        clear hds hok hx hds' hok' hy
        go_wp2
        refine wp_region_quiet_lit (by kernel_rfl) (by kernel_rfl) ?_
        repeat (first | (refine quiet_want rfl fun K hK => quiet_load 24 _ rfl _ rfl _ (HL1).out (hK _ ?_); clear hK K) | (refine quiet_want rfl fun K hK => quiet_load 24 _ rfl _ rfl _ (HL2).out (hK _ ?_); clear hK K) | (quiet_step (fail)))
        refine wpQuiet_nil ?_
        intro _ hw'
        obtain ⟨nq, hw''⟩ := hw'
        subst hw''
        have HB2 : Hid (Below w.heap.size w (wr.drewN nq)) := Lib.hid (below_drewN hb.out _)
        clear hb heq
        generalize wr.drewN nq = wd at *
        go_wp2
        · rename_i h
          have hxd : x ≠ y := by simpa using h
          go_ret
          exact ⟨ret_bool (HN.out hxd).symm, HB2.out⟩
        · rename_i h
          have hxd : x = y := by simpa using h
          exact ⟨⟨k + 1, by omega, by go_num, Lib.hid (HX.out hxd), HB2⟩, by simp [intOf] <;> omega⟩
      · obtain rfl : k = n := by omega
        have HF : Hid (decide (L = M) = true) := Lib.hid (by
          have h := ht.out
          rw [List.take_of_length_le (by rw [H.out.1]; omega), List.take_of_length_le (by rw [H'.out.1]; omega)] at h
          simpa using h)
        go_wp2
        go_ret
        exact ⟨ret_bool HF.out.symm, hb.out⟩
  · have e1 : (((n : Nat) : Int) != (m : Int)) = true := by rw [bne_iff_ne]; omega
    have HF : Hid (decide (L = M) = false) := Lib.hid (by
      rw [decide_eq_false_iff_not]
      intro e; apply hnm; rw [← H.out.1, ← H'.out.1, e])
    go_enter Tryd.func17, Tryd.ntmps17
    go_wp2
    go_ret
    exact ⟨ret_bool HF.out.symm, HB0.out⟩
end Go.Proofs.YtlggbicjgddnaaaDoor
