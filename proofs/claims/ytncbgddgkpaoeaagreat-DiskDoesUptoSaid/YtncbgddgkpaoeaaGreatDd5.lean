/- Layer 9: the reference's Apply; Layer 9: the reference's Apply, where it writes -/
import Derived.Test.YtncbgddgkpaoeaaGreatDd3
import Derived.Test.YtncbgddgkpaoeaaGreatDd4
import Derived.Deep.Cut
set_option linter.unusedSimpArgs false
set_option linter.unusedVariables false
namespace Go.Proofs.YtncbgddgkpaoeaaGreat
set_option linter.unusedVariables false
open Go.RowKit Go.Lib

/-- a change laid in a block of its own -/
def Cw (w : World) (B : Nat) (c : Ch) (p : Option Addr) (n cap : Nat) : Prop := w.heap[B]? = some (.cells #[.bool c.cut, .int .i64 c.off, .slice p n cap] 137 (0, 0))
theorem Cw.keep {w w' : World} {B : Nat} {c : Ch} {p : Option Addr} {n cap : Nat} (h : Cw w B c p n cap) (hb : Below (B + 1) w w') : Cw w' B c p n cap := by
  unfold Cw; rw [hb.block B (Nat.lt_succ_self B)]; exact h
theorem Cw.cells {w : World} {B : Nat} {c : Ch} {p : Option Addr} {n cap : Nat} (h : Cw w B c p n cap) : w.cell? ⟨B, 0, none⟩ = some (.bool c.cut) ∧ w.cell? ⟨B, 1, none⟩ = some (.int .i64 c.off) ∧ w.cell? ⟨B, 2, none⟩ = some (.slice p n cap) := by
  refine ⟨?_, ?_, ?_⟩ <;> (rw [cell_of_row _ _ _ _ _ _ h]; rfl)
theorem one_in {y : Int} (h : 0 ≤ y ∧ y < 256) : ∀ j, 0 ≤ ([y] : List Int).getD j 0 ∧ ([y] : List Int).getD j 0 < 256 := fun j => by
  match j with
  | 0 => simpa using h
  | j + 1 => simp

set_option maxRecDepth 100000 in
set_option maxHeartbeats 1000000 in
theorem rapply_cut (q : Option Addr) (l cp : Nat) (zs : List Int) (c : Ch) (p : Option Addr) (n cap : Nat) (m : Int) (w : World) (hz : Bs w q l zs) (hq : q = none → cp = 0) (h : chIn w c p n cap) (hl : l ≤ 2097152) (hcase : rightP c = false ∨ c.cut = true) :
    Calls Tryz.prog 102 #[.slice q l cp, chV c p n cap, .int .i64 m] w fun e w' => ∃ v, e = .returned v ∧ Ob w' w.heap.size 5 v (appP zs c m.toNat) ∧ Below w.heap.size w w' := by
  have HB0 : Hid (Below w.heap.size w (w.alloc (.cells #[.bool c.cut, .int .i64 c.off, .slice p n cap] 137))) := Lib.hid ((Below.refl _ _).alloc (Nat.le_refl _) _)
  have HC0 : Hid (Cw (w.alloc (.cells #[.bool c.cut, .int .i64 c.off, .slice p n cap] 137)) w.heap.size c p n cap) := Lib.hid (heap_alloc_new _ _)
  have HS0 : Hid (w.heap.size + 1 ≤ (w.alloc (.cells #[.bool c.cut, .int .i64 c.off, .slice p n cap] 137)).heap.size) := Lib.hid (by simp)
  have H := Lib.hid h
  have HZ := Lib.hid hz
  have HQ := Lib.hid hq
  have HLZ := Lib.hid hz.1
  have HZL : Hid (([] : List Int).length + l ≤ 140737488355328) := Lib.hid (by simp; omega)
  have hcl := HC0.out.cells
  cases hr : rightP c
  · have HF : Hid (appP zs c m.toNat = zs) := Lib.hid (by unfold appP; rw [if_pos hr])
    have HRT : Hid (∀ W, chIn W c p n cap → Calls Tryz.prog 120 #[.agg #[.bool c.cut, .int .i64 c.off, .slice p n cap]] W fun e w' => e = .returned (.bool false) ∧ W.alloc (.cells #[.bool c.cut, .int .i64 c.off, .slice p n cap] 137) = w') := Lib.hid fun W hW => by
      have h := rwright_any c p n cap W hW
      rwa [hr] at h
    clear h hz hq hcase hr
    unfold chV
    obtain ⟨h0, h1, h2⟩ := hcl
    go_enter Tryz.func102, Tryz.ntmps102
    go_wp2_with fail
    refine (HRT.out _ (H.out.later HB0.out)).mono ?_
    rintro e w1 ⟨rfl, hw1⟩
    have HB1 : Hid (Below w.heap.size w w1) := Lib.hid (by rw [← hw1]; exact HB0.out.alloc HB0.out.size _)
    clear hw1 h0 h1 h2 HC0 HS0 HB0
    have HO0 := Lib.hid (Ob.nil w1 w.heap.size 5)
    go_wp2_with (refine wpList_append_bytes rfl (.tmp 13) (.tmp 14) 32 5 rfl Tryz.underlying32 info8 w.heap.size _ [] rfl HO0.out q l cp zs rfl (HZ.out.later HB1.out) HQ.out HZL.out HB1.out.size ?_; intro v2 w2 hob2 hg2; rw [List.nil_append] at hob2; have HO2 := Lib.hid hob2; have HB2 := Lib.hid (below_new HB1.out HO0.out hg2 HB1.out.size); clear hob2 hg2)
    go_ret
    exact ⟨_, rfl, by rw [HF.out]; exact HO2.out, HB2.out⟩
  · have hcut : c.cut = true := by
      rcases hcase with h1 | h1
      · rw [h1] at hr; cases hr
      · exact h1
    have hro := hr
    unfold rightP at hro
    obtain ⟨o0, o1⟩ := of_decide_eq_true hro
    obtain ⟨o, ho⟩ : ∃ o : Nat, c.off = (o : Int) := ⟨c.off.toNat, by omega⟩
    have hob : o ≤ 1048576 := by omega
    have HF : Hid (appP zs c m.toNat = zs.take o) := Lib.hid (by unfold appP; rw [if_neg (by rw [hr]; simp), if_pos hcut, ho]; rfl)
    have HRT : Hid (∀ W, chIn W c p n cap → Calls Tryz.prog 120 #[.agg #[.bool c.cut, .int .i64 c.off, .slice p n cap]] W fun e w' => e = .returned (.bool true) ∧ W.alloc (.cells #[.bool c.cut, .int .i64 c.off, .slice p n cap] 137) = w') := Lib.hid fun W hW => by
      have h := rwright_any c p n cap W hW
      rwa [hr] at h
    clear hro o0 o1 hr hcase h hz hq
    unfold chV
    have HCUT := Lib.hid hcut
    have HOF := Lib.hid ho
    obtain ⟨h0, h1, h2⟩ := hcl
    clear hcut ho
    go_enter Tryz.func102, Tryz.ntmps102
    go_wp2_with fail
    refine (HRT.out _ (H.out.later HB0.out)).mono ?_
    rintro e w1 ⟨rfl, hw1⟩
    have HB1 : Hid (Below w.heap.size w w1) := Lib.hid (by rw [← hw1]; exact HB0.out.alloc HB0.out.size _)
    have HC1 : Hid (Cw w1 w.heap.size c p n cap) := Lib.hid (HC0.out.keep (by rw [← hw1]; exact (Below.refl _ _).alloc HS0.out _))
    have HS1 : Hid (w.heap.size + 1 ≤ w1.heap.size) := Lib.hid (by rw [← hw1]; simp)
    clear hw1 h0 h1 h2 HC0 HS0 HB0
    have hc1 := HC1.out.cells
    rw [HCUT.out, HOF.out] at hc1
    obtain ⟨h0, h1, h2⟩ := hc1
    have HO0 := Lib.hid (Ob.nil w1 (w.heap.size + 1) 5)
    have HX0 := Lib.hid (Below.refl (w.heap.size + 1) w1)
    go_wp2
    clear h0 h1 h2
    go_loopw [7, 8] (fun v i wr => ∃ k : Nat, k ≤ l ∧ k ≤ o ∧ i = .int .i64 (k : Int) ∧ Hid (Ob wr (w.heap.size + 1) 5 v (zs.take k)) ∧ Hid (Below (w.heap.size + 1) w1 wr)) (fun _ i _ => l - (intOf i).toNat)
    case atStart => exact ⟨0, by omega, by omega, rfl, HO0, HX0⟩
    case round =>
      clear HO0 HX0
      obtain ⟨k, hk, hko, rfl, HO, HX⟩ := hrel
      have hc2 := (HC1.out.keep HX.out).cells
      rw [HCUT.out, HOF.out] at hc2
      obtain ⟨h0, h1, h2⟩ := hc2
      have HBW : Hid (Below w.heap.size w wr) := Lib.hid (HB1.out.trans (HX.out.mono (Nat.le_succ _)))
      by_cases hlt : k < l
      · by_cases hlo : k < o
        · have hpp : ∃ b off, q = some ⟨b, off, none⟩ ∧ ∀ j, j < l → wr.cell? ⟨b, off + j, none⟩ = some (.int .u8 (zs.getD j 0)) := by
            rcases (HZ.out.later HBW.out).2.2 with h | h
            · omega
            · exact h
          obtain ⟨b, off, rfl, hcl⟩ := hpp
          have cA := hcl k hlt
          have hy := HZ.out.2.1 k
          have HTK : Hid (zs.take (k + 1) = zs.take k ++ [zs.getD k 0]) := Lib.hid (by
            rw [List.take_succ_eq_append_getElem (by rw [HLZ.out]; exact hlt), List.getD_eq_getElem?_getD, List.getElem?_eq_getElem (by rw [HLZ.out]; exact hlt)]; rfl)
          generalize zs.getD k 0 = y at *
          have HBS := Lib.hid (bs_lit_fr wr 5 #[.int .u8 y] (0, 0) [y] 1 rfl (one_in hy) rfl)
          have HO2 := Lib.hid (HO.out.alloc (.cells #[.int .u8 y] 5))
          have HX2 := Lib.hid (HX.out.alloc (by have := HX.out.size; have := HS1.out; omega) (.cells #[.int .u8 y] 5))
          have HSZ : Hid (w.heap.size + 1 ≤ (wr.alloc (.cells #[.int .u8 y] 5)).heap.size) := Lib.hid (by have := HX.out.size; have := HS1.out; simp; omega)
          have HLN : Hid ((zs.take k).length + 1 ≤ 140737488355328) := Lib.hid (by rw [List.length_take]; omega)
          clear hcl HO HX
          go_wp2_with (refine wpList_append_bytes rfl (.tmp 30) (.tmp 35) 32 5 rfl Tryz.underlying32 info8 (w.heap.size + 1) _ (zs.take k) rfl HO2.out (some ⟨wr.heap.size, 0, none⟩) 1 1 [y] rfl HBS.out (fun h => by cases h) HLN.out HSZ.out ?_; intro v3 w3 hob3 hg3; rw [← HTK.out] at hob3; have HO3 := Lib.hid hob3; have HX3 := Lib.hid (below_new HX2.out HO2.out hg3 HSZ.out); clear hob3 hg3)
          refine ⟨?_, by simp [intOf]; omega⟩
          first
            | exact ⟨k + 1, by omega, by omega, by go_num, HO3, HX3⟩
            | ((repeat apply Exists.intro); refine ⟨?_, rfl⟩; exact ⟨k + 1, by omega, by omega, by go_num, HO3, HX3⟩)
        · obtain rfl : k = o := by omega
          go_wp2
          go_ret
          exact ⟨_, rfl, by rw [HF.out]; exact HO.out.mono (Nat.le_succ _), HBW.out⟩
      · obtain rfl : k = l := by omega
        have HT : Hid (zs.take o = zs.take k) := Lib.hid (by rw [List.take_of_length_le (by rw [HLZ.out]; omega), List.take_of_length_le (by rw [HLZ.out]; omega)])
        go_wp2
        go_ret
        exact ⟨_, rfl, by rw [HF.out, HT.out]; exact HO.out.mono (Nat.le_succ _), HBW.out⟩
end Go.Proofs.YtncbgddgkpaoeaaGreat

namespace Go.Proofs.YtncbgddgkpaoeaaGreat
set_option linter.unusedVariables false
open Go.RowKit Go.Lib

/-- padded up to and with a place -/
def padP (b : List Int) (e : Nat) : List Int := b ++ List.replicate (e + 1 - b.length) 0
def slen : Value → Nat
  | .slice _ n _ => n
  | _ => 0
set_option maxRecDepth 100000 in
set_option maxHeartbeats 4000000 in
theorem rapply_put (q : Option Addr) (l cp : Nat) (zs : List Int) (c : Ch) (p : Option Addr) (n cap : Nat) (M : Nat) (w : World) (hz : Bs w q l zs) (hq : q = none → cp = 0) (h : chIn w c p n cap) (hl : l ≤ 2097152) (hr : rightP c = true) (hcut : c.cut = false) :
    Calls Tryz.prog 102 #[.slice q l cp, chV c p n cap, .int .i64 (M : Int)] w fun e w' => ∃ v, e = .returned v ∧ Ob w' w.heap.size 5 v (appP zs c M) ∧ Below w.heap.size w w' := by
  have HB0 : Hid (Below w.heap.size w (w.alloc (.cells #[.bool c.cut, .int .i64 c.off, .slice p n cap] 137))) := Lib.hid ((Below.refl _ _).alloc (Nat.le_refl _) _)
  have HC0 : Hid (Cw (w.alloc (.cells #[.bool c.cut, .int .i64 c.off, .slice p n cap] 137)) w.heap.size c p n cap) := Lib.hid (heap_alloc_new _ _)
  have HS0 : Hid (w.heap.size + 1 ≤ (w.alloc (.cells #[.bool c.cut, .int .i64 c.off, .slice p n cap] 137)).heap.size) := Lib.hid (by simp)
  have H := Lib.hid h
  have HZ := Lib.hid hz
  have HQ := Lib.hid hq
  have HLZ := Lib.hid hz.1
  have HZL : Hid (([] : List Int).length + l ≤ 140737488355328) := Lib.hid (by simp; omega)
  have hcl := HC0.out.cells
  have hro := hr
  unfold rightP at hro
  obtain ⟨o0, o1⟩ := of_decide_eq_true hro
  rw [h.1.1] at o1
  obtain ⟨o, ho⟩ : ∃ o : Nat, c.off = (o : Int) := ⟨c.off.toNat, by omega⟩
  have hon : o + n ≤ 1048576 := by omega
  have HDL := Lib.hid h.1.1
  have HF : Hid (appP zs c M = putP zs o (c.dat.take M)) := Lib.hid (by unfold appP; rw [if_neg (by rw [hr]; simp), if_neg (by rw [hcut]; simp), ho]; rfl)
  have HRT : Hid (∀ W, chIn W c p n cap → Calls Tryz.prog 120 #[.agg #[.bool c.cut, .int .i64 c.off, .slice p n cap]] W fun e w' => e = .returned (.bool true) ∧ W.alloc (.cells #[.bool c.cut, .int .i64 c.off, .slice p n cap] 137) = w') := Lib.hid fun W hW => by
    have h := rwright_any c p n cap W hW
    rwa [hr] at h
  unfold chV
  have HCUT := Lib.hid hcut
  have HOF := Lib.hid ho
  obtain ⟨h0, h1, h2⟩ := hcl
  clear hro o0 o1 hr h hz hq hcut ho
  go_enter Tryz.func102, Tryz.ntmps102
  go_wp2_with fail
  refine (HRT.out _ (H.out.later HB0.out)).mono ?_
  rintro e w1 ⟨rfl, hw1⟩
  have HB1 : Hid (Below w.heap.size w w1) := Lib.hid (by rw [← hw1]; exact HB0.out.alloc HB0.out.size _)
  have HC1 : Hid (Cw w1 w.heap.size c p n cap) := Lib.hid (HC0.out.keep (by rw [← hw1]; exact (Below.refl _ _).alloc HS0.out _))
  have HS1 : Hid (w.heap.size + 1 ≤ w1.heap.size) := Lib.hid (by rw [← hw1]; simp)
  clear hw1 h0 h1 h2 HC0 HS0 HB0
  have hc1 := HC1.out.cells
  rw [HCUT.out, HOF.out] at hc1
  obtain ⟨h0, h1, h2⟩ := hc1
  have HO0 := Lib.hid (Ob.nil w1 (w.heap.size + 1) 5)
  go_upto_region 11 with (refine wpList_append_bytes rfl (.tmp 38) (.tmp 39) 32 5 rfl Tryz.underlying32 info8 (w.heap.size + 1) _ [] rfl HO0.out q l cp zs rfl (HZ.out.later HB1.out) HQ.out HZL.out HS1.out ?_; intro v2 w2 hob2 hg2; rw [List.nil_append] at hob2; have HO2 := Lib.hid hob2; have HX2 := Lib.hid (below_new (Below.refl (w.heap.size + 1) w1) HO0.out hg2 HS1.out); clear hob2 hg2)
  have HB2 : Hid (Below w.heap.size w w2) := Lib.hid (HB1.out.trans (HX2.out.mono (Nat.le_succ _)))
  clear h0 h1 h2 HO0
  go_wp2
  go_loopw [7, 9] (fun v i wr => ∃ k : Nat, k ≤ n ∧ k ≤ M ∧ i = .int .i64 (k : Int) ∧ Hid (Ob wr (w.heap.size + 1) 5 v (putP zs o (c.dat.take k))) ∧ Hid (Below (w.heap.size + 1) w1 wr)) (fun _ i _ => n - (intOf i).toNat)
  case atStart => exact ⟨0, by omega, by omega, rfl, Lib.hid (by rw [List.take_zero, putP_nil]; exact HO2.out), HX2⟩
  case round =>
    clear HO2 HX2 HB2
    obtain ⟨k, hk, hkm, rfl, HO, HX⟩ := hrel
    have HBW : Hid (Below w.heap.size w wr) := Lib.hid (HB1.out.trans (HX.out.mono (Nat.le_succ _)))
    have hc2 := (HC1.out.keep HX.out).cells
    rw [HCUT.out, HOF.out] at hc2
    obtain ⟨h0, h1, h2⟩ := hc2
    by_cases hlt : k < n
    · by_cases hlm : k < M
      · have HSTEP := Lib.hid (putP_step zs o c.dat k (by rw [HDL.out]; exact hlt))
        have HBL : Hid ((putP zs o (c.dat.take k)).length ≤ 4194304) := Lib.hid (by
          by_cases e : c.dat.take k = []
          · rw [e, putP_nil, HLZ.out]; omega
          · rw [putP_length _ _ e, HLZ.out, List.length_take]; omega)
        obtain ⟨bs, hbs⟩ : ∃ bs, putP zs o (c.dat.take k) = bs := ⟨_, rfl⟩
        rw [hbs] at HO HSTEP HBL
        clear hbs
        obtain ⟨p3, c3, hv3, _, _, _, _⟩ := HO.out.open
        subst hv3
        go_wp2
        clear h0 h1 h2
        go_loopw [7] (fun v wr => ∃ (j : Nat) (p' : Option Addr) (len' cap' : Nat), v = .slice p' len' cap' ∧ len' ≤ 4194305 ∧ Hid (len' = bs.length + j) ∧ Hid (j = 0 ∨ bs.length + j ≤ o + k + 1) ∧ Hid (Ob wr (w.heap.size + 1) 5 (.slice p' len' cap') (bs ++ List.replicate j 0)) ∧ Hid (Below (w.heap.size + 1) w1 wr)) (fun v _ => o + k + 1 - slen v)
        case atStart => exact ⟨0, p3, bs.length, c3, rfl, by have := HBL.out; omega, Lib.hid rfl, Lib.hid (Or.inl rfl), Lib.hid (by simpa using HO.out), HX⟩
        case round =>
          clear HO HX HBW
          obtain ⟨j, p4, len4, c4, rfl, hl4, HLJ, HJ, HO, HX⟩ := hrel
          have HBW : Hid (Below w.heap.size w wr) := Lib.hid (HB1.out.trans (HX.out.mono (Nat.le_succ _)))
          have hc2 := (HC1.out.keep HX.out).cells
          rw [HCUT.out, HOF.out] at hc2
          obtain ⟨h0, h1, h2⟩ := hc2
          by_cases hpad : len4 ≤ o + k
          · have hpad' : (len4 : Int) ≤ (o : Int) + (k : Int) := by omega
            have HBS := Lib.hid (bs_lit_fr wr 5 #[.int .u8 0] (0, 0) [0] 1 rfl (one_in (by omega)) rfl)
            have HO2 := Lib.hid (HO.out.alloc (.cells #[.int .u8 0] 5))
            have HX2 := Lib.hid (HX.out.alloc (by have := HX.out.size; have := HS1.out; omega) (.cells #[.int .u8 0] 5))
            have HSZ : Hid (w.heap.size + 1 ≤ (wr.alloc (.cells #[.int .u8 0] 5)).heap.size) := Lib.hid (by have := HX.out.size; have := HS1.out; simp; omega)
            have HLN : Hid ((bs ++ List.replicate j 0).length + 1 ≤ 140737488355328) := Lib.hid (by rw [List.length_append, List.length_replicate]; have := HLJ.out; omega)
            have HREP : Hid (bs ++ List.replicate j 0 ++ [0] = bs ++ List.replicate (j + 1) 0) := Lib.hid (by rw [List.append_assoc, ← List.replicate_succ'])
            have HJ2 : Hid (j + 1 = 0 ∨ bs.length + (j + 1) ≤ o + k + 1) := Lib.hid (Or.inr (by have := HLJ.out; omega))
            clear HO HX
            go_wp2_with (refine wpList_append_bytes rfl (.tmp 60) (.tmp 61) 32 5 rfl Tryz.underlying32 info8 (w.heap.size + 1) _ (bs ++ List.replicate j 0) rfl HO2.out (some ⟨wr.heap.size, 0, none⟩) 1 1 [0] rfl HBS.out (fun h => by cases h) HLN.out HSZ.out ?_; intro v3 w3 hob3 hg3; rw [HREP.out] at hob3; have HO3 := Lib.hid hob3; have HX3 := Lib.hid (below_new HX2.out HO2.out hg3 HSZ.out); clear hob3 hg3)
            obtain ⟨p5, c5, hv5, _, _, _, _⟩ := HO3.out.open
            have hl5 : (bs ++ List.replicate (j + 1) 0).length = len4 + 1 := by rw [List.length_append, List.length_replicate, HLJ.out]; omega
            rw [hl5] at hv5
            subst hv5
            refine ⟨?_, by simp only [slen]; omega⟩
            first
              | exact ⟨j + 1, p5, len4 + 1, c5, rfl, by omega, Lib.hid (by have := HLJ.out; omega), HJ2, HO3, HX3⟩
              | ((repeat apply Exists.intro); refine ⟨?_, rfl⟩; exact ⟨j + 1, p5, len4 + 1, c5, rfl, by omega, Lib.hid (by have := HLJ.out; omega), HJ2, HO3, HX3⟩)
          · have hpad' : ¬ ((len4 : Int) ≤ (o : Int) + (k : Int)) := by omega
            have hok : o + k < len4 := by omega
            have HPAD : Hid (bs ++ List.replicate j 0 = bs ++ List.replicate (o + k + 1 - bs.length) 0) := Lib.hid (by
              have h1 := HLJ.out
              have h2 := HJ.out
              rw [show o + k + 1 - bs.length = j by omega])
            rw [HPAD.out] at HO
            obtain ⟨g, rfl⟩ := HO.out.ptr (by omega)
            obtain ⟨cO, fO⟩ := HO.out.cell (o + k) hok
            have hpp : ∃ b off, p = some ⟨b, off, none⟩ ∧ ∀ j, j < n → wr.cell? ⟨b, off + j, none⟩ = some (.int .u8 (c.dat.getD j 0)) := by
              rcases (H.out.1.later HBW.out).2.2 with h | h
              · omega
              · exact h
            obtain ⟨b, off, rfl, hcd⟩ := hpp
            have cD := hcd k hlt
            have hy := H.out.1.2.1 k
            have HSET := Lib.hid (HO.out.set (o + k) hok (c.dat.getD k 0) hy.1 hy.2)
            rw [← HSTEP.out] at HSET
            have HGB := Lib.hid HO.out.block_own.1
            have HX2 := Lib.hid (HX.out.setCell (p := ⟨g, o + k, none⟩) HGB.out (.int .u8 (c.dat.getD k 0)))
            generalize c.dat.getD k 0 = y at *
            generalize (bs ++ List.replicate (o + k + 1 - bs.length) 0).getD (o + k) 0 = y0 at *
            clear hcd HO HX
            go_upto_region 16 with fail
            go_region
            go_wp2
            refine ⟨?_, by simp [intOf]; omega⟩
            first
              | exact ⟨k + 1, by omega, by omega, by go_num, Lib.hid (HSET.out.later ((Below.refl _ _).drew)), Lib.hid (HX2.out.drew)⟩
              | ((repeat apply Exists.intro); refine ⟨?_, rfl⟩; exact ⟨k + 1, by omega, by omega, by go_num, Lib.hid (HSET.out.later ((Below.refl _ _).drew)), Lib.hid (HX2.out.drew)⟩)
      · obtain rfl : k = M := by omega
        go_wp2
        go_ret
        exact ⟨_, rfl, by rw [HF.out]; exact HO.out.mono (Nat.le_succ _), HBW.out⟩
    · obtain rfl : k = n := by omega
      have HT : Hid (c.dat.take M = c.dat.take k) := Lib.hid (by rw [List.take_of_length_le (by rw [HDL.out]; omega), List.take_of_length_le (by rw [HDL.out]; omega)])
      go_wp2
      go_ret
      exact ⟨_, rfl, by rw [HF.out, HT.out]; exact HO.out.mono (Nat.le_succ _), HBW.out⟩
end Go.Proofs.YtncbgddgkpaoeaaGreat
