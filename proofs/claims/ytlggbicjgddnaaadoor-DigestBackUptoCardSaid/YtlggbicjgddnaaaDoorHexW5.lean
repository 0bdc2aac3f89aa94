/- Walks of the reference of layer 3: worth, Read. -/
import Derived.Test.YtlggbicjgddnaaaDoorHexW4
namespace Go.Proofs.YtlggbicjgddnaaaDoor
set_option linter.unusedVariables false
open Go.RowKit Go.Lib

theorem hworth_any (c : Int) (w : World) (h0 : 0 ≤ c) (h1 : c < 256) :
    Calls Tryd.prog 37 #[.int .u8 c] w fun e w' => e = .returned (.int .u8 (hwor c)) ∧ w' = w := by
  by_cases a1 : 48 ≤ c ∧ c ≤ 57
  · have e : hwor c = c - 48 := by unfold hwor; rw [if_pos a1]
    obtain ⟨a2, a3⟩ := a1
    rw [e]
    go_enter Tryd.func37, Tryd.ntmps37
    go_wp2
    go_ret
    exact ⟨rfl, rfl⟩
  · by_cases b1 : 97 ≤ c ∧ c ≤ 102
    · have e : hwor c = c - 87 := by unfold hwor; rw [if_neg a1, if_pos b1]
      obtain ⟨b2, b3⟩ := b1
      have a2 : 48 ≤ c := by omega
      have a3 : decide (c ≤ 57) = false := by simp; omega
      have a4 : IntKind.u8.wrap (c - 97) = c - 97 := wrap_u8_in (by omega) (by omega)
      rw [e]
      clear a1
      go_enter Tryd.func37, Tryd.ntmps37
      go_wp2
      go_ret
      exact ⟨ret_int (by omega), rfl⟩
    · have e : hwor c = 16 := by unfold hwor; rw [if_neg a1, if_neg b1]
      rw [e]
      by_cases a2 : 48 ≤ c
      · have a3 : decide (c ≤ 57) = false := by simp; omega
        by_cases b2 : 97 ≤ c
        · have b3 : decide (c ≤ 102) = false := by simp; omega
          clear a1 b1 e
          go_enter Tryd.func37, Tryd.ntmps37
          go_wp2
          go_ret
          exact ⟨rfl, rfl⟩
        · have b3 : decide (97 ≤ c) = false := by simp; omega
          clear a1 b1 e
          go_enter Tryd.func37, Tryd.ntmps37
          go_wp2
          go_ret
          exact ⟨rfl, rfl⟩
      · have a3 : decide (48 ≤ c) = false := by simp; omega
        have b3 : decide (97 ≤ c) = false := by simp; omega
        clear a1 b1 e
        go_enter Tryd.func37, Tryd.ntmps37
        go_wp2
        go_ret
        exact ⟨rfl, rfl⟩

theorem run_index_nums (W : World) (s : ByteArray) (i : Nat) (h : i < s.size) :
    (Instr.index 9 (.string s) (.int .i64 (i : Int))).run Tryd.prog W = .ok (.int .u8 ((numsOf s).getD i 0)) W := by
  rw [run_index_string W 9 _ .i64 (i : Int) Tryd.underlying9, dif_pos ⟨by omega, by omega⟩, numsOf_getD s i h]
  rfl

theorem hread_app {cs : List Int} {i n : Nat} (he : i % 2 = 0) (hi : i + 1 < n) : hread cs ((i + 2) / 2) n = hread cs (i / 2) n ++ [hwor (cs.getD i 0) * 16 + hwor (cs.getD (i + 1) 0)] := by
  have e1 : (i + 2) / 2 = i / 2 + 1 := by omega
  have e2 : 2 * (i / 2) = i := by omega
  rw [e1, hread_two cs (i / 2) n (by omega), e2]

set_option maxRecDepth 100000 in
theorem hrefread_any (s : ByteArray) (w : World) (hs : s.size ≤ 140737488355328) :
    Calls Tryd.prog 23 #[.string s] w fun e w' => ((hrd (numsOf s) = none ∧ e = .returned (.tuple #[.slice none 0 0, .int .i64 3])) ∨ (∃ ys v, hrd (numsOf s) = some ys ∧ e = .returned (.tuple #[v, .int .i64 0]) ∧ Ob w' w.heap.size 5 v ys)) ∧ Below w.heap.size w w' := by
  by_cases hodd : s.size % 2 = 0
  · have hmod : (((s.size : Int).tmod 2) == 1) = false := by rw [Int.tmod_eq_emod_of_nonneg (by omega)]; simp; omega
    have hmod' : (((s.size : Int) % 2) == 1) = false := by simp; omega
    have HODD := Lib.hid hodd
    clear hodd
    go_enter Tryd.func23, Tryd.ntmps23
    go_wp2
    go_loopw [4, 5] (fun v i wr => ∃ k : Nat, k ≤ s.size ∧ i = .int .i64 k ∧ Hid (k % 2 = 0) ∧ Hid (Ob wr w.heap.size 5 v (hread (numsOf s) (k / 2) s.size)) ∧ Hid (hgood (numsOf s) k) ∧ Hid (Below w.heap.size w wr)) (fun _ i _ => s.size - (intOf i).toNat)
    case atStart => exact ⟨0, Nat.zero_le _, rfl, Lib.hid rfl, Lib.hid (Ob.nil _ _ _), Lib.hid (fun j hj => by omega), Lib.hid (Below.refl _ _)⟩
    case round =>
      obtain ⟨k, hk, rfl, hev, hob, hgd, hbl⟩ := hrel
      by_cases hlt : k + 1 < s.size
      · have hlt' : (k : Int) + 1 < (s.size : Int) := by omega
        have hx1 := fun W => run_index_nums W s k (by omega)
        have hx2 := fun W => run_index_nums W s (k + 1) hlt
        rw [show ((k + 1 : Nat) : Int) = (k : Int) + 1 by omega] at hx2
        have hb1 := numsOf_byte s k
        have hb2 := numsOf_byte s (k + 1)
        have HAP := Lib.hid (hread_app (cs := numsOf s) (n := s.size) hev.out hlt)
        have hw1 := hwor_bd ((numsOf s).getD k 0)
        have hw2 := hwor_bd ((numsOf s).getD (k + 1) 0)
        have HX1 := Lib.hid hx1
        have HX2 := Lib.hid hx2
        have hx3 := hx2
        rw [show (k : Int) + 1 = IntKind.i64.wrap ((k : Int) + 1) by rw [IntKind.wrap_i64]; omega] at hx3
        have HX3 := Lib.hid hx3
        have HRL : Hid ((hread (numsOf s) (k / 2) s.size).length = k / 2) := Lib.hid (hread_length _ _ _)
        have hRL : (hread (numsOf s) (k / 2) s.size).length + 1 ≤ 140737488355328 := by rw [hread_length]; omega
        clear hx1 hx2 hx3
        have HB1 : Hid (hwor ((numsOf s).getD k 0) = 16 → hrd (numsOf s) = none) := Lib.hid fun h => hrd_bad (by rw [numsOf_length]; omega) h
        have HB2 : Hid (hwor ((numsOf s).getD (k + 1) 0) = 16 → hrd (numsOf s) = none) := Lib.hid fun h => hrd_bad (by rw [numsOf_length]; omega) h
        have HG : Hid (hwor ((numsOf s).getD k 0) ≠ 16 → hwor ((numsOf s).getD (k + 1) 0) ≠ 16 → hgood (numsOf s) (k + 2)) := Lib.hid fun h1 h2 => hgood_step (hgood_step hgd.out h1) h2
        have hx1 := HX1.out
        have hx2 := HX2.out
        have hx3 := HX3.out
        generalize hc1 : (numsOf s).getD k 0 = c1 at *
        generalize hc2 : (numsOf s).getD (k + 1) 0 = c2 at *
        clear hc1 hc2
        have hs1 := hbl.out.size
        go_wp2
        go_quiet ((go_at_call 37; refine Calls.quiet_of_same (hworth_any _ _ (by first | with_reducible exact hb1.1 | with_reducible exact hb2.1) (by first | with_reducible exact hb1.2 | with_reducible exact hb2.2))))
        have hob' := hob.out.later (below_drewN (Below.refl _ _) nq)
        have hbl' := below_drewN hbl.out nq
        have hs1' := hbl'.size
        have HOB' := Lib.hid hob'
        have HBL' := Lib.hid hbl'
        clear hob' hbl' hob hbl
        generalize wr.drewN nq = wd at *
        generalize hwor c1 = n1 at *
        generalize hwor c2 = n2 at *
        by_cases h1 : n1 = 16
        · have HR := Lib.hid (HB1.out h1)
          have h15 : (15 : Int) < n1 := by omega
          clear h1
          go_wp2
          go_ret2
          exact ⟨Or.inl ⟨HR.out, rfl⟩, HBL'.out⟩
        · by_cases h2 : n2 = 16
          · have HR := Lib.hid (HB2.out h2)
            have h15 : decide ((15 : Int) < n1) = false := by simp; omega
            have h15' : (15 : Int) < n2 := by omega
            clear h1 h2
            go_wp2
            go_ret2
            exact ⟨Or.inl ⟨HR.out, rfl⟩, HBL'.out⟩
          · have h15 : decide ((15 : Int) < n1) = false := by simp; omega
            have h15' : decide ((15 : Int) < n2) = false := by simp; omega
            have HG2 := Lib.hid (HG.out h1 h2)
            have hv0 : 0 ≤ n1 * 16 + n2 := by omega
            have hv1 : n1 * 16 + n2 < 256 := by omega
            have HW1 := Lib.hid (HBL'.out.alloc hs1' (.cells #[.int .u8 (n1 * 16 + n2)] 5))
            have hs2 := HW1.out.size
            have HO1 : Hid (Ob (wd.alloc (.cells #[.int .u8 (n1 * 16 + n2)] 5)) w.heap.size 5 u4 (hread (numsOf s) (k / 2) s.size)) := Lib.hid (HOB'.out.alloc _)
            have HN1 := Lib.hid (bs_one wd (n1 * 16 + n2) 5 hv0 hv1)
            have hpc : (some (⟨wd.heap.size, 0, none⟩ : Addr)) = none → 1 = 0 := by simp
            have HP := Lib.hid hpc
            have HEV := Lib.hid (show (k + 2) % 2 = 0 by have := hev.out; omega)
            clear h1 h2 hpc
            go_wp2_with (refine wpList_append_bytes rfl _ _ 22 5 rfl Tryd.underlying22 info8 w.heap.size _ (hread (numsOf s) (k / 2) s.size) rfl HO1.out (some ⟨wd.heap.size, 0, none⟩) 1 1 [n1 * 16 + n2] rfl HN1.out HP.out hRL hs2 ?_; intro v' w' hob2 hg2; have HO2 := Lib.hid hob2; have HB3 := Lib.hid (below_new HW1.out HO1.out hg2 hs2); clear hob2 hg2)
            refine ⟨⟨k + 2, by omega, by go_num, HEV, ?_, HG2, HB3⟩, by simp [intOf]; omega⟩
            rw [HAP.out]
            exact HO2
      · have hev' := hev.out
        have hod := HODD.out
        obtain rfl : k = s.size := by omega
        have hn : decide ((s.size : Int) + 1 < (s.size : Int)) = false := by simp; omega
        have HR := Lib.hid (hrd_good (cs := numsOf s) (by rw [numsOf_length]; exact hod) (by rw [numsOf_length]; exact hgd.out))
        rw [numsOf_length] at HR
        clear hev' hod hlt hgd
        go_wp2
        go_ret2
        exact ⟨Or.inr ⟨_, _, HR.out, rfl, hob.out⟩, hbl.out⟩
  · have hmod : (((s.size : Int).tmod 2) == 1) = true := by rw [Int.tmod_eq_emod_of_nonneg (by omega)]; simp; omega
    have hmod' : (((s.size : Int) % 2) == 1) = true := by simp; omega
    have HR := Lib.hid (hrd_odd (cs := numsOf s) (by rw [numsOf_length]; exact hodd))
    clear hodd
    go_enter Tryd.func23, Tryd.ntmps23
    go_wp2
    go_ret2
    exact ⟨Or.inl ⟨HR.out, rfl⟩, Below.refl _ _⟩
end Go.Proofs.YtlggbicjgddnaaaDoor
