/- Layer 9: the reference's Apply -/
import Derived.Test.YtbjfbecpagdoeaaGreatDt3
import Derived.Test.YtbjfbecpagdoeaaGreatDt4
import Derived.Deep.Cut
namespace Go.Proofs.YtbjfbecpagdoeaaGreat
set_option linter.unusedVariables false
open Go.RowKit Go.Lib

/-- a change laid in a block of its own -/
def Cw (w : World) (B : Nat) (c : Ch) (p : Option Addr) (n cap : Nat) : Prop := w.heap[B]? = some (.cells #[.bool c.cut, .int .i64 c.off, .slice p n cap] 137 (0, 0))
theorem Cw.keep {w w' : World} {B : Nat} {c : Ch} {p : Option Addr} {n cap : Nat} (h : Cw w B c p n cap) (hb : Below (B + 1) w w') : Cw w' B c p n cap := by
  unfold Cw; rw [hb.block B (Nat.lt_succ_self B)]; exact h
theorem Cw.cells {w : World} {B : Nat} {c : Ch} {p : Option Addr} {n cap : Nat} (h : Cw w B c p n cap) : w.cell? ⟨B, 0, none⟩ = some (.bool c.cut) ∧ w.cell? ⟨B, 1, none⟩ = some (.int .i64 c.off) ∧ w.cell? ⟨B, 2, none⟩ = some (.slice p n cap) := by
  refine ⟨?_, ?_, ?_⟩ <;> (rw [cell_of_row _ _ _ _ _ _ h]; rfl)
theorem one_in {y : Int} (h : 0 ≤ y ∧ y < 256) : ∀ j, 0 ≤ ([y] : List Int).getD j 0 ∧ ([y] : List Int).getD j 0 < 256 := fun j => by
  match j with
  | 0 => simpa using h
  | j + 1 => simp

set_option maxRecDepth 100000 in
set_option maxHeartbeats 1000000 in
theorem rapply_cut (q : Option Addr) (l cp : Nat) (zs : List Int) (c : Ch) (p : Option Addr) (n cap : Nat) (m : Int) (w : World) (hz : Bs w q l zs) (hq : q = none → cp = 0) (h : chIn w c p n cap) (hl : l ≤ 2097152) (hcase : rightP c = false ∨ c.cut = true) :
    Calls Tryz.prog 102 #[.slice q l cp, chV c p n cap, .int .i64 m] w fun e w' => ∃ v, e = .returned v ∧ Ob w' w.heap.size 5 v (appP zs c m.toNat) ∧ Below w.heap.size w w' := by
  have HB0 : Hid (Below w.heap.size w (w.alloc (.cells #[.bool c.cut, .int .i64 c.off, .slice p n cap] 137))) := Lib.hid ((Below.refl _ _).alloc (Nat.le_refl _) _)
  have HC0 : Hid (Cw (w.alloc (.cells #[.bool c.cut, .int .i64 c.off, .slice p n cap] 137)) w.heap.size c p n cap) := Lib.hid (heap_alloc_new _ _)
  have HS0 : Hid (w.heap.size + 1 ≤ (w.alloc (.cells #[.bool c.cut, .int .i64 c.off, .slice p n cap] 137)).heap.size) := Lib.hid (by simp)
  have H := Lib.hid h
  have HZ := Lib.hid hz
  have HQ := Lib.hid hq
  have HLZ := Lib.hid hz.1
  have HZL : Hid (([] : List Int).length + l ≤ 140737488355328) := Lib.hid (by simp; omega)
  have hcl := HC0.out.cells
  cases hr : rightP c
  · have HF : Hid (appP zs c m.toNat = zs) := Lib.hid (by unfold appP; rw [if_pos hr])
    have HRT : Hid (∀ W, chIn W c p n cap → Calls Tryz.prog 120 #[.agg #[.bool c.cut, .int .i64 c.off, .slice p n cap]] W fun e w' => e = .returned (.bool false) ∧ W.alloc (.cells #[.bool c.cut, .int .i64 c.off, .slice p n cap] 137) = w') := Lib.hid fun W hW => by
      have h := rwright_any c p n cap W hW
      rwa [hr] at h
    clear h hz hq hcase hr
    unfold chV
    obtain ⟨h0, h1, h2⟩ := hcl
    go_enter Tryz.func102, Tryz.ntmps102
    go_wp2_with fail
    refine (HRT.out _ (H.out.later HB0.out)).mono ?_
    rintro e w1 ⟨rfl, hw1⟩
    have HB1 : Hid (Below w.heap.size w w1) := Lib.hid (by rw [← hw1]; exact HB0.out.alloc HB0.out.size _)
    clear hw1 h0 h1 h2 HC0 HS0 HB0
    have HO0 := Lib.hid (Ob.nil w1 w.heap.size 5)
    go_wp2_with (refine wpList_append_bytes rfl (.tmp 13) (.tmp 14) 32 5 rfl Tryz.underlying32 info8 w.heap.size _ [] rfl HO0.out q l cp zs rfl (HZ.out.later HB1.out) HQ.out HZL.out HB1.out.size ?_; intro v2 w2 hob2 hg2; rw [List.nil_append] at hob2; have HO2 := Lib.hid hob2; have HB2 := Lib.hid (below_new HB1.out HO0.out hg2 HB1.out.size); clear hob2 hg2)
    go_ret
    exact ⟨_, rfl, by rw [HF.out]; exact HO2.out, HB2.out⟩
  · have hcut : c.cut = true := by
      rcases hcase with h1 | h1
      · rw [h1] at hr; cases hr
      · exact h1
    have hro := hr
    unfold rightP at hro
    obtain ⟨o0, o1⟩ := of_decide_eq_true hro
    obtain ⟨o, ho⟩ : ∃ o : Nat, c.off = (o : Int) := ⟨c.off.toNat, by omega⟩
    have hob : o ≤ 1048576 := by omega
    have HF : Hid (appP zs c m.toNat = zs.take o) := Lib.hid (by unfold appP; rw [if_neg (by rw [hr]; simp), if_pos hcut, ho]; rfl)
    have HRT : Hid (∀ W, chIn W c p n cap → Calls Tryz.prog 120 #[.agg #[.bool c.cut, .int .i64 c.off, .slice p n cap]] W fun e w' => e = .returned (.bool true) ∧ W.alloc (.cells #[.bool c.cut, .int .i64 c.off, .slice p n cap] 137) = w') := Lib.hid fun W hW => by
      have h := rwright_any c p n cap W hW
      rwa [hr] at h
    clear hro o0 o1 hr hcase h hz hq
    unfold chV
    have HCUT := Lib.hid hcut
    have HOF := Lib.hid ho
    obtain ⟨h0, h1, h2⟩ := hcl
    clear hcut ho
    go_enter Tryz.func102, Tryz.ntmps102
    go_wp2_with fail
    refine (HRT.out _ (H.out.later HB0.out)).mono ?_
    rintro e w1 ⟨rfl, hw1⟩
    have HB1 : Hid (Below w.heap.size w w1) := Lib.hid (by rw [← hw1]; exact HB0.out.alloc HB0.out.size _)
    have HC1 : Hid (Cw w1 w.heap.size c p n cap) := Lib.hid (HC0.out.keep (by rw [← hw1]; exact (Below.refl _ _).alloc HS0.out _))
    have HS1 : Hid (w.heap.size + 1 ≤ w1.heap.size) := Lib.hid (by rw [← hw1]; simp)
    clear hw1 h0 h1 h2 HC0 HS0 HB0
    have hc1 := HC1.out.cells
    rw [HCUT.out, HOF.out] at hc1
    obtain ⟨h0, h1, h2⟩ := hc1
    have HO0 := Lib.hid (Ob.nil w1 (w.heap.size + 1) 5)
    have HX0 := Lib.hid (Below.refl (w.heap.size + 1) w1)
    go_wp2
    clear h0 h1 h2
    go_loopw [7, 8] (fun v i wr => ∃ k : Nat, k ≤ l ∧ k ≤ o ∧ i = .int .i64 (k : Int) ∧ Hid (Ob wr (w.heap.size + 1) 5 v (zs.take k)) ∧ Hid (Below (w.heap.size + 1) w1 wr)) (fun _ i _ => l - (intOf i).toNat)
    case atStart => exact ⟨0, by omega, by omega, rfl, HO0, HX0⟩
    case round =>
      clear HO0 HX0
      obtain ⟨k, hk, hko, rfl, HO, HX⟩ := hrel
      have hc2 := (HC1.out.keep HX.out).cells
      rw [HCUT.out, HOF.out] at hc2
      obtain ⟨h0, h1, h2⟩ := hc2
      have HBW : Hid (Below w.heap.size w wr) := Lib.hid (HB1.out.trans (HX.out.mono (Nat.le_succ _)))
      by_cases hlt : k < l
      · by_cases hlo : k < o
        · have hpp : ∃ b off, q = some ⟨b, off, none⟩ ∧ ∀ j, j < l → wr.cell? ⟨b, off + j, none⟩ = some (.int .u8 (zs.getD j 0)) := by
            rcases (HZ.out.later HBW.out).2.2 with h | h
            · omega
            · exact h
          obtain ⟨b, off, rfl, hcl⟩ := hpp
          have cA := hcl k hlt
          have hy := HZ.out.2.1 k
          have HTK : Hid (zs.take (k + 1) = zs.take k ++ [zs.getD k 0]) := Lib.hid (by
            rw [List.take_succ_eq_append_getElem (by rw [HLZ.out]; exact hlt), List.getD_eq_getElem?_getD, List.getElem?_eq_getElem (by rw [HLZ.out]; exact hlt)]; rfl)
          generalize zs.getD k 0 = y at *
          have HBS := Lib.hid (bs_lit_fr wr 5 #[.int .u8 y] (0, 0) [y] 1 rfl (one_in hy) rfl)
          have HO2 := Lib.hid (HO.out.alloc (.cells #[.int .u8 y] 5))
          have HX2 := Lib.hid (HX.out.alloc (by have := HX.out.size; have := HS1.out; omega) (.cells #[.int .u8 y] 5))
          have HSZ : Hid (w.heap.size + 1 ≤ (wr.alloc (.cells #[.int .u8 y] 5)).heap.size) := Lib.hid (by have := HX.out.size; have := HS1.out; simp; omega)
          have HLN : Hid ((zs.take k).length + 1 ≤ 140737488355328) := Lib.hid (by rw [List.length_take]; omega)
          clear hcl HO HX
          go_wp2_with (refine wpList_append_bytes rfl (.tmp 30) (.tmp 35) 32 5 rfl Tryz.underlying32 info8 (w.heap.size + 1) _ (zs.take k) rfl HO2.out (some ⟨wr.heap.size, 0, none⟩) 1 1 [y] rfl HBS.out (fun h => by cases h) HLN.out HSZ.out ?_; intro v3 w3 hob3 hg3; rw [← HTK.out] at hob3; have HO3 := Lib.hid hob3; have HX3 := Lib.hid (below_new HX2.out HO2.out hg3 HSZ.out); clear hob3 hg3)
          refine ⟨?_, by simp [intOf]; omega⟩
          first
            | exact ⟨k + 1, by omega, by omega, by go_num, HO3, HX3⟩
            | ((repeat apply Exists.intro); refine ⟨?_, rfl⟩; exact ⟨k + 1, by omega, by omega, by go_num, HO3, HX3⟩)
        · obtain rfl : k = o := by omega
          go_wp2
          go_ret
          exact ⟨_, rfl, by rw [HF.out]; exact HO.out.mono (Nat.le_succ _), HBW.out⟩
      · obtain rfl : k = l := by omega
        have HT : Hid (zs.take o = zs.take k) := Lib.hid (by rw [List.take_of_length_le (by rw [HLZ.out]; omega), List.take_of_length_le (by rw [HLZ.out]; omega)])
        go_wp2
        go_ret
        exact ⟨_, rfl, by rw [HF.out, HT.out]; exact HO.out.mono (Nat.le_succ _), HBW.out⟩
end Go.Proofs.YtbjfbecpagdoeaaGreat
