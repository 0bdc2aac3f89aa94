/- slices.Compact at digests: the library's own text, walked -/
import Derived.Test.YtpfbfhigelbfcaaGreatSd44
import Derived.Deep.Cut
set_option linter.unusedSimpArgs false
set_option linter.unusedVariables false
namespace Go.Proofs.YtpfbfhigelbfcaaGreat
open Go.RowKit Go.Lib
theorem run_slice_from_d {P : Program} (W : World) (t e : TypeId) (ht : P.underlying t = some (.slice e)) (hz : ∀ w, (Go.sizeOf e).run P w = .ok 32 w) (b o len cap l : Nat) (hl : l ≤ len) (hc : l < cap) :
 (Instr.slice t (.slice (some ⟨b, o, none⟩) len cap) (some (.int .i64 (l : Int))) none none).run P W = .ok (.slice (some ⟨b, o + l * 32, none⟩) (len - l) (cap - l)) W := by
 have ht' : P.underlying t = some (.slice (P.elem t)) := by simp [Program.elem, ht]
 have he : P.elem t = e := by simp [Program.elem, ht]
 rw [run_slice_l W t _ _ _ ht' .i64 _ (by omega) (by omega), he, hz]
 by_cases h0 : l = 0
 ·subst h0
  simp [Result.andThen, sliced, Addr.add, Nat.ne_of_gt hc]
 ·have h3 : ¬ l * 32 = 0 := by omega
  simp [Result.andThen, sliced, Addr.add, Nat.ne_of_gt hc, h3]
theorem run_slice_to_d {P : Program} (W : World) (t e : TypeId) (ht : P.underlying t = some (.slice e)) (hz : ∀ w, (Go.sizeOf e).run P w = .ok 32 w) (b o len cap h : Nat) (hh : h ≤ cap) :
 (Instr.slice t (.slice (some ⟨b, o, none⟩) len cap) none (some (.int .i64 (h : Int))) none).run P W = .ok (.slice (some ⟨b, o, none⟩) h cap) W := by
 have ht' : P.underlying t = some (.slice (P.elem t)) := by simp [Program.elem, ht]
 have he : P.elem t = e := by simp [Program.elem, ht]
 rw [run_slice_h W t _ _ _ ht' .i64 _ (by omega) (by omega), he, hz]
 simp [Result.andThen, sliced, Addr.add]
theorem zeroD (w : World) : (zeroValue 35).run Tryz.prog w = .ok (.agg (bcs dzero)) w := Tryz.zeroValue35 w
theorem sizeD (w : World) : (Go.sizeOf 35).run Tryz.prog w = .ok 32 w := Tryz.sizeOf35 w
theorem Od.ldat {w : World} {B g n c : Nat} {L : List (List Int)} (h : Od w B (.slice (some ⟨g, 0, none⟩) n c) L) (j o : Nat) (hj : j < n) (ho : o = j * 32) : ∀ W, (∃ m, W = w.drewN m) → (Instr.loadAt 35 (.pointer (some ⟨g, o, none⟩))).run Tryz.prog W = .ok (.agg (bcs (L.getD j []))) W := by
 rintro W ⟨m, rfl⟩
 have hb : Below w.heap.size w (w.drewN m) := below_drewN (Below.refl _ _) _
 have := (h.ds.later hb).load j hj
 rw [Nat.zero_add] at this
 rw [ho]; exact this
theorem getD_tail {C L : List (List Int)} {u q : Nat} (hu : u = C.length) (h : u ≤ q) : (C ++ L.drop u).getD q [] = L.getD q [] := by
 subst hu
 rw [List.getD_eq_getElem?_getD, List.getElem?_append_right h, List.getElem?_drop, List.getD_eq_getElem?_getD]
 congr 2; omega
theorem size32' (x : List Int) (h : dok x) : (Tryz.prog.info? 35).map (·.size) = some (bcs x).size := by rw [bcs_size, h.1]; exact size32
theorem Od.rng {w : World} {B g n c : Nat} {L : List (List Int)} (h : Od w B (.slice (some ⟨g, 0, none⟩) n c) L) (j o : Nat) (hj : j < n) (ho : o = j * 32) : w.rangeAt g o ((L.getD j []).map (Value.int .u8)) := by
 have := h.ds.range j hj
 rw [Nat.zero_add] at this
 rw [ho]; exact this
set_option maxRecDepth 100000 in
theorem compact_any (B : Nat) (p : Option Addr) (n c : Nat) (L : List (List Int)) (w : World) (h : Od w B (.slice p n c) L) (hs : dsorted L) (hB : B ≤ w.heap.size) (hn : n ≤ 1048576) :
 Calls Tryz.prog 144 #[.slice p n c] w fun e w' => ∃ v, e = .returned v ∧ Od w' B v (drow L) ∧ Below B w w' := by
 have H := Lib.hid h
 have HS := Lib.hid hs
 have hl := h.len
 by_cases h2 : n < 2
 ·have HF := Lib.hid (drow_short (L := L) (by omega))
  clear h hs hl
  go_enter Tryz.func144, Tryz.ntmps144
  go_wp2
  go_ret
  exact ⟨_, rfl, by rw [HF.out]; exact H.out, Below.refl _ _⟩
 obtain ⟨g, rfl⟩ := h.ptr (by omega)
 have hc := h.block.2.2.1
 have hm : c ≤ 9223372036854775807 := by have := h.block.2.2.2.1; unfold maxLen at this; omega
 have hBg := Lib.hid h.block.2.1
 have HL32 : Hid (∀ x ∈ L, x.length = 32) := Lib.hid fun x hx => (h.1 x hx).1
 have HL := Lib.hid hl
 have HOK : Hid (∀ j, j < n → dok (L.getD j [])) := Lib.hid fun j hj => h.ds.ok j hj
 have HW : Hid (Below B w w) := Lib.hid (Below.refl _ _)
 have H1 : Hid (drow (L.take 1) = L.take 1) := Lib.hid (drow_short (by rw [List.length_take]; omega))
 clear h hs hl
 go_enter Tryz.func144, Tryz.ntmps144
 go_wp2
 go_loopw [3] (fun i wr => ∃ k j : Nat, k ≤ n ∧ i = .int .i64 (k : Int) ∧ Hid (k = j + 1) ∧ Hid (drow (L.take k) = L.take k) ∧ Hid (Od wr B (.slice (some ⟨g, 0, none⟩) n c) L) ∧ Hid (Below B w wr)) (fun i _ => n - (intOf i).toNat)
 case atStart => exact ⟨1, 0, by omega, rfl, Lib.hid rfl, H1, H, HW⟩
 case round =>
  clear H H1 HW
  obtain ⟨k, j, hk, rfl, HK, HD, HO, HBL⟩ := hrel
  by_cases hlt : k < n
  ·have HL1 := Lib.hid (HO.out.ldat k (k * 32) hlt rfl)
   have HL2 := Lib.hid (HO.out.ldat j (j * 32) (by have := HK.out; omega) rfl)
   have hwj : IntKind.i64.wrap ((k : Int) - 1) = (j : Int) := by have := HK.out; simp [IntKind.wrap, IntKind.bits, IntKind.signed]; omega
   have hj0 : j < n := by have := HK.out; omega
   have heq := fun W => digest_eq (L.getD k []) (L.getD j []) (HOK.out k hlt) (HOK.out j hj0) W
   obtain ⟨x, hx⟩ : ∃ x, L.getD k [] = x := ⟨_, rfl⟩
   obtain ⟨y, hy⟩ : ∃ y, L.getD j [] = y := ⟨_, rfl⟩
   have HX := Lib.hid hx
   have HY := Lib.hid hy
   rw [hx] at HL1 heq
   rw [hy] at HL2 heq
   clear hx hy
   go_wp2
   refine wp_region_quiet_lit (by kernel_rfl) (by kernel_rfl) ?_
   repeat (first | (refine quiet_want rfl fun K hK => quiet_load 35 _ rfl _ rfl _ (HL1).out (hK _ ?_); clear hK K) | (refine quiet_want rfl fun K hK => quiet_load 35 _ rfl _ rfl _ (HL2).out (hK _ ?_); clear hK K) | (quiet_step (fail)))
   refine wpQuiet_nil ?_
   intro _ hw'
   obtain ⟨nq, hw''⟩ := hw'
   subst hw''
   have hbd : Below wr.heap.size wr (wr.drewN nq) := below_drewN (Below.refl _ _) _
   have HO2 := Lib.hid (HO.out.later hbd)
   have HB2 : Hid (Below B w (wr.drewN nq)) := Lib.hid (below_drewN HBL.out _)
   clear hbd HO HBL heq
   generalize wr.drewN nq = wd at *
   by_cases hxy : x = y
   ·have hT : decide (x = y) = true := by simpa using hxy
    have hsl := fun W => run_slice_from_d (P := Tryz.prog) W 74 35 Tryz.underlying74 sizeD g 0 n c k (by omega) (by omega)
    rw [Nat.zero_add] at hsl
    have H0 : Hid (k = (drow (L.take (k + 1))).length ∧ Od wd B (.slice (some ⟨g, 0, none⟩) n c) (drow (L.take (k + 1)) ++ L.drop (drow (L.take (k + 1))).length)) := Lib.hid (by
     have hkj := HK.out
     subst hkj
     rw [drow_old HL32.out (by rw [HL.out]; exact hlt) (by rw [HX.out, HY.out, hxy]), HD.out, List.length_take, HL.out, Nat.min_eq_left (by omega), List.take_append_drop]
     exact ⟨rfl, HO2.out⟩)
    clear HL1 HL2 hwj HX HY HD hT
    subst hxy
    go_wp2
    go_loopw [3, 5] (fun i3 i5 wr => ∃ u v m : Nat, u ≤ k + v - 1 ∧ 1 ≤ v ∧ k + v ≤ n ∧ i3 = .int .i64 (u : Int) ∧ i5 = .int .i64 (v : Int) ∧ Hid (u = (drow (L.take (k + v))).length ∧ Od wr B (.slice (some ⟨g, 0, none⟩) n c) (drow (L.take (k + v)) ++ L.drop (drow (L.take (k + v))).length)) ∧ Hid (Below B w wr)) (fun _ i5 _ => n - k - (intOf i5).toNat)
    case atStart => exact ⟨k, 1, 0, by omega, by omega, by omega, rfl, rfl, H0, HB2⟩
    case round =>
     clear H0 HB2 HO2 hsl
     obtain ⟨u, v, m, huv, hv1, hkv, rfl, rfl, HU, HBL⟩ := hrel
     by_cases hlt2 : v < n - k
     ·obtain ⟨i, hi⟩ : ∃ i, v = i + 1 := ⟨v - 1, by omega⟩
      have HI := Lib.hid hi
      have hi2 : i < n - k := by omega
      have hU := HU.out
      have hol := hU.2
      rw [← hU.1] at hol
      have HLA := Lib.hid (hol.ldat (k + v) (k * 32 + v * 32) (by omega) (by omega))
      have HLB := Lib.hid (hol.ldat (k + i) (k * 32 + i * 32) (by omega) (by omega))
      have HRA := Lib.hid (hol.rng (k + v) (k * 32 + v * 32) (by omega) (by omega))
      have e1 : (drow (L.take (k + v)) ++ L.drop u).getD (k + v) [] = L.getD (k + v) [] := getD_tail hU.1 (by omega)
      have e2 : (drow (L.take (k + v)) ++ L.drop u).getD (k + i) [] = L.getD (k + i) [] := getD_tail hU.1 (by omega)
      rw [e1] at HLA HRA
      rw [e2] at HLB
      have hwi : IntKind.i64.wrap ((v : Int) - 1) = (i : Int) := by simp [IntKind.wrap, IntKind.bits, IntKind.signed]; omega
      have hx2 := HOK.out (k + v) (by omega)
      have heq := fun W => digest_eq (L.getD (k + v) []) (L.getD (k + i) []) hx2 (HOK.out (k + i) (by omega)) W
      obtain ⟨x2, hx⟩ : ∃ x, L.getD (k + v) [] = x := ⟨_, rfl⟩
      obtain ⟨y2, hy⟩ : ∃ y, L.getD (k + i) [] = y := ⟨_, rfl⟩
      rw [hx] at HLA HRA heq hx2
      rw [hy] at HLB heq
      have HX2 := Lib.hid hx2
      have HSAME : Hid (x2 = y2 → drow (L.take (k + (v + 1))) = drow (L.take (k + v))) := Lib.hid fun h => by
       have h1 := drow_old HL32.out (m := k + i) (L := L) (by rw [HL.out]; omega) (by rw [show k + i + 1 = k + v by omega, hx, hy]; exact h)
       rwa [show k + i + 2 = k + (v + 1) by omega, show k + i + 1 = k + v by omega] at h1
      have HNEW : Hid (x2 ≠ y2 → drow (L.take (k + (v + 1))) = drow (L.take (k + v)) ++ [x2]) := Lib.hid fun h => by
       have h1 := drow_new HL32.out HS.out (m := k + i) (L := L) (by rw [HL.out]; omega) (by rw [show k + i + 1 = k + v by omega, hx, hy]; exact h)
       rwa [show k + i + 2 = k + (v + 1) by omega, show k + i + 1 = k + v by omega, hx] at h1
      clear hx hy e1 e2 hol hU hx2 hi
      generalize hbx : decide (x2 = y2) = bx at heq
      cases bx
      ·have hne : x2 ≠ y2 := by simpa using hbx
       have HN := Lib.hid (HNEW.out hne)
       clear hbx hne HNEW HSAME
       go_wp2
       refine wp_region_quiet_lit (by kernel_rfl) (by kernel_rfl) ?_
       repeat (first | (refine quiet_want rfl fun K hK => quiet_load 35 _ rfl _ rfl _ (HLA).out (hK _ ?_); clear hK K) | (refine quiet_want rfl fun K hK => quiet_load 35 _ rfl _ rfl _ (HLB).out (hK _ ?_); clear hK K) | (quiet_step (fail)))
       refine wpQuiet_nil ?_
       intro _ hw'
       obtain ⟨nq, hw''⟩ := hw'
       subst hw''
       have HB2 : Hid (Below B w (wr.drewN nq)) := Lib.hid (below_drewN HBL.out _)
       have hbd : Below wr.heap.size wr (wr.drewN nq) := below_drewN (Below.refl _ _) _
       have HO2 := Lib.hid (HU.out.2.later hbd)
       have HUL := Lib.hid HU.out.1
       have HRB : Hid ((wr.drewN nq).rangeAt g (k * 32 + v * 32) (x2.map (Value.int .u8))) := Lib.hid HRA.out
       clear HLA HLB HRA HU HBL hbd heq hwi
       generalize wr.drewN nq = wq at *
       have HTH : Hid (wq.there g (u * 32) (bcs x2).size) := Lib.hid (HO2.out.there _ _ (by rw [bcs_size, HX2.out.1]; omega))
       have HST : Hid (∀ w3, wq.setCells g (u * 32) (bcs x2).toList = w3 → (u + 1 = (drow (L.take (k + (v + 1)))).length ∧ Od w3 B (.slice (some ⟨g, 0, none⟩) n c) (drow (L.take (k + (v + 1))) ++ L.drop (drow (L.take (k + (v + 1)))).length)) ∧ Below B w w3) := Lib.hid (by
        rintro w3 rfl
        have hul := HUL.out
        have hu1 : u < L.length := by rw [HL.out]; omega
        have e1 : L.drop u = L.getD u [] :: L.drop (u + 1) := by
         rw [List.drop_eq_getElem_cons hu1, List.getD_eq_getElem?_getD, List.getElem?_eq_getElem hu1]; rfl
        have h1 := HO2.out
        rw [← hul, e1] at h1
        have h2 := h1.setAt x2 HX2.out
        rw [← hul] at h2
        refine ⟨⟨by rw [HN.out, List.length_append, ← hul]; rfl, ?_⟩, below_cells hBg.out _ _ _ HB2.out⟩
        rw [HN.out, List.length_append, ← hul, List.append_assoc]
        exact h2)
       have HZ := Lib.hid (size32' x2 HX2.out)
       have HZ2 : Hid ((Tryz.prog.info? 35).map (·.size) = some (x2.map (Value.int .u8)).length) := Lib.hid (by rw [List.length_map, HX2.out.1]; exact size32)
       go_wp2_with (first
        | (refine wpList_load_mid (by rfl) 35 _ rfl g (k * 32 + v * 32) rfl _ _ HRB.out Tryz.underlying35 rfl HZ2.out ?_)
        | (refine wpList_store_mid (by rfl) 35 _ _ rfl g (u * 32) (bcs x2) rfl rfl HTH.out HZ.out (bcs_one _) ?_; generalize hw3 : World.setCells _ _ _ _ = w3; have HW3 := Lib.hid (HST.out _ hw3); clear hw3))
       refine ⟨?_, by simp [intOf]; omega⟩
       have HE1 := Lib.hid HW3.out.1
       have HE2 := Lib.hid HW3.out.2
       first
        | exact ⟨u + 1, v + 1, m, by omega, by omega, by omega, by go_num, by go_num, HE1, HE2⟩
        | ((repeat apply Exists.intro); refine ⟨?_, rfl⟩; exact ⟨u + 1, v + 1, m, by omega, by omega, by omega, by go_num, by go_num, HE1, HE2⟩)
      ·have he : x2 = y2 := by simpa using hbx
       have HN := Lib.hid (HSAME.out he)
       clear hbx he HNEW HSAME
       go_wp2
       refine wp_region_quiet_lit (by kernel_rfl) (by kernel_rfl) ?_
       repeat (first | (refine quiet_want rfl fun K hK => quiet_load 35 _ rfl _ rfl _ (HLA).out (hK _ ?_); clear hK K) | (refine quiet_want rfl fun K hK => quiet_load 35 _ rfl _ rfl _ (HLB).out (hK _ ?_); clear hK K) | (quiet_step (fail)))
       refine wpQuiet_nil ?_
       intro _ hw'
       obtain ⟨nq, hw''⟩ := hw'
       subst hw''
       have HB2 : Hid (Below B w (wr.drewN nq)) := Lib.hid (below_drewN HBL.out _)
       have hbd : Below wr.heap.size wr (wr.drewN nq) := below_drewN (Below.refl _ _) _
       have HU2 : Hid (u = (drow (L.take (k + (v + 1)))).length ∧ Od (wr.drewN nq) B (.slice (some ⟨g, 0, none⟩) n c) (drow (L.take (k + (v + 1))) ++ L.drop (drow (L.take (k + (v + 1)))).length)) := Lib.hid (by rw [HN.out]; exact ⟨HU.out.1, HU.out.2.later hbd⟩)
       clear HLA HLB HRA HU HBL hbd heq hwi
       generalize wr.drewN nq = wq at *
       go_wp2
       refine ⟨?_, by simp [intOf]; omega⟩
       first
        | exact ⟨u, v + 1, m, by omega, by omega, by omega, rfl, by go_num, HU2, HB2⟩
        | ((repeat apply Exists.intro); refine ⟨?_, rfl⟩; exact ⟨u, v + 1, m, by omega, by omega, by omega, rfl, by go_num, HU2, HB2⟩)
     ·have hvn : k + v = n := by omega
      rw [hvn] at HU
      have HD3 : Hid (L.take n = L) := Lib.hid (List.take_of_length_le (by rw [HL.out]; omega))
      rw [HD3.out] at HU
      have hun : u < n := by omega
      have hslu := fun W => run_slice_from_d (P := Tryz.prog) W 74 35 Tryz.underlying74 sizeD g 0 n c u (by omega) (by omega)
      rw [Nat.zero_add] at hslu
      have hslt := fun W => run_slice_to_d (P := Tryz.prog) W 74 35 Tryz.underlying74 sizeD g 0 n c u (by omega)
      have hcl := fun ty => run_clear_digs (P := Tryz.prog) (w := wr) (ty := ty) Tryz.underlying74 zeroD g (u * 32) (n - u) (c - u) (by omega) (HU.out.2.there _ _ (by omega))
      have HOV : Hid (∀ w3, wr.setCells g (u * 32) (Builtin.zeroCells (bcs dzero) (n - u)).toList = w3 → Od w3 B (.slice (some ⟨g, 0, none⟩) u c) (drow L) ∧ Below B w w3) := Lib.hid (by
       rintro w3 rfl
       have h1 := HU.out.2.cut
       rw [← HU.out.1] at h1
       have hsz : (Builtin.zeroCells (bcs dzero) (n - u)).size = (n - u) * 32 := by simp [Builtin.zeroCells, bcs_size, dzero]
       exact ⟨h1.over _ _ (by omega) (by rw [Array.length_toList, hsz]; omega), below_cells hBg.out _ _ _ HBL.out⟩)
      generalize hw3 : wr.setCells g (u * 32) (Builtin.zeroCells (bcs dzero) (n - u)).toList = w3 at hcl
      have HW3 := Lib.hid (HOV.out _ hw3)
      clear hw3 HOV HU HBL hvn
      go_wp2
      go_ret
      exact ⟨_, rfl, HW3.out.1, HW3.out.2⟩
   ·have hT : decide (x = y) = false := by simpa using hxy
    have HD2 : Hid (drow (L.take (k + 1)) = L.take (k + 1)) := Lib.hid (by
     have hkj := HK.out
     subst hkj
     rw [drow_new HL32.out HS.out (by rw [HL.out]; exact hlt) (by rw [HX.out, HY.out]; exact hxy), HD.out, List.take_succ_eq_append_getElem (i := j + 1) (by rw [HL.out]; exact hlt), List.getD_eq_getElem?_getD, List.getElem?_eq_getElem (by rw [HL.out]; exact hlt)]
     rfl)
    clear HL1 HL2 hwj HX HY HD
    go_wp2
    exact ⟨⟨k + 1, k, by omega, by go_num, Lib.hid rfl, HD2, HO2, HB2⟩, by simp [intOf] <;> omega⟩
  ·have HF : Hid (drow L = L) := Lib.hid (by
    have h := HD.out
    rwa [List.take_of_length_le (by rw [HL.out]; omega)] at h)
   go_wp2
   go_ret
   exact ⟨_, rfl, by rw [HF.out]; exact HO.out, HBL.out⟩
end Go.Proofs.YtpfbfhigelbfcaaGreat

