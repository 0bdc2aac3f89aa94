/- Layer 12, the program: slices.BinarySearch, laid at rows of numbers; settle; Layer 12, the program: settle -/
import Derived.Test.YtncbgddgkpaoeaaGreatDd19
import Derived.Test.YtncbgddgkpaoeaaGreatDd24
import Derived.Shelf.SlicesG.SearchI
set_option linter.unusedSimpArgs false
set_option linter.unusedVariables false
namespace Go.Proofs.YtncbgddgkpaoeaaGreat
set_option linter.unusedVariables false
open Go.RowKit Go.Lib Go.Maps Go.Shelf

def bsI_ren : Go.Shelf.Ren := ⟨fun | 49 => 66 | 59 => 91 | 60 => 92 | 68 => 117 | n => n,
  fun | 22 => 98 | 23 => 3 | 3 => 3 | 4 => 4 | 51 => 139 | 0 => 0 | n => n,
  fun | n => n⟩
theorem bsI : Go.Proofs.SlLaysN.n49 Tryz.prog bsI_ren := {
  mixed := by kernel_rfl,
  f49 := ⟨Tryz.f66.name, by decide, Tryz.func66.trans (congrArg some (by kernel_rfl))⟩,
  f59 := ⟨Tryz.f91.name, by decide, Tryz.func91.trans (congrArg some (by kernel_rfl))⟩,
  f60 := ⟨Tryz.f92.name, by decide, Tryz.func92.trans (congrArg some (by kernel_rfl))⟩,
  f68 := ⟨Tryz.f117.name, by decide, Tryz.func117.trans (congrArg some (by kernel_rfl))⟩,
  t0 := Tryz.underlying0,
  a0 := Tryz.isAgg0,
  z0 := Tryz.sizeOf0,
  v0 := Tryz.zeroValue0,
  t3 := Tryz.underlying3,
  a3 := Tryz.isAgg3,
  z3 := Tryz.sizeOf3,
  v3 := Tryz.zeroValue3,
  t4 := Tryz.underlying4,
  a4 := Tryz.isAgg4,
  z4 := Tryz.sizeOf4,
  v4 := Tryz.zeroValue4,
  t22 := Tryz.underlying98,
  a22 := Tryz.isAgg98,
  z22 := Tryz.sizeOf98,
  v22 := Tryz.zeroValue98,
  t23 := Tryz.underlying3,
  a23 := Tryz.isAgg3,
  z23 := Tryz.sizeOf3,
  v23 := Tryz.zeroValue3,
  t51 := Tryz.underlying139,
  a51 := Tryz.isAgg139,
  z51 := Tryz.sizeOf139,
  v51 := Tryz.zeroValue139 }

set_option maxRecDepth 100000 in
theorem bsI_any (p : Option Addr) (n c : Nat) (L : List Int) (i : Int) (w : World) (h : Gs encI w p n L) (hn : n ≤ 2097152) (hs : irises L) :
    Calls Tryz.prog 66 #[.slice p n c, .int .i64 i] w fun e w' => ∃ k : Int, e = .returned (.tuple #[.int .i64 k, .bool (decide (i ∈ L))]) ∧ ∃ q, w' = w.drewN q := by
  by_cases h0 : n = 0
  · subst h0
    obtain rfl : L = [] := List.length_eq_zero_iff.1 h.1
    have e : decide (i ∈ ([] : List Int)) = false := by simp
    rw [e]
    clear h hs e
    go_enter Tryz.func66, Tryz.ntmps66
    go_wp2
    go_loopw [7, 8] (fun a b wr => a = .int .i64 0 ∧ b = .int .i64 0 ∧ wr = w) (fun _ _ _ => 0)
    case atStart => exact ⟨rfl, rfl, rfl⟩
    case round =>
      obtain ⟨rfl, rfl, rfl⟩ := hrel
      go_wp2
      go_ret2
      exact ⟨0, rfl, 0, rfl⟩
  · rcases h.2 with h1 | ⟨b, off, rfl, hc⟩
    · exact absurd h1 h0
    · have hl := h.1
      have hcon := AnyG.slices_BinarySearch_int bsI b off n c L i w (by omega) (by omega) (fun j hj => by
        have := hc j (by omega) 0 _ rfl
        rw [show encI.k = 1 from rfl, Nat.mul_one, Nat.add_zero] at this
        exact this) (by rw [List.take_of_length_le (by omega)]; exact List.Pairwise.imp (fun h => by omega) hs)
      change Calls Tryz.prog 66 _ _ _ at hcon
      rw [List.take_of_length_le (by omega)] at hcon
      refine hcon.mono ?_
      rintro e w' ⟨rfl, q, rfl⟩
      exact ⟨_, by rw [List.contains_eq_mem], q, rfl⟩
end Go.Proofs.YtncbgddgkpaoeaaGreat

namespace Go.Proofs.YtncbgddgkpaoeaaGreat
set_option linter.unusedVariables false
open Go.RowKit Go.Lib Go.Maps

/-- the files that stay, and those that are still to come -/
def stayG (g : Int → Option Ni) (l : List Int) (left : Lit → Bool) (i : Int) : Option Ni := if i ∈ l ∨ left (keyI i) = true then g i else none
theorem stayG_sub {g : Int → Option Ni} {l : List Int} {left : Lit → Bool} {i : Int} {y : Ni} (h : stayG g l left i = some y) : g i = some y := by
  unfold stayG at h
  split at h
  · exact h
  · cases h
theorem Dg.start {D : DataW Value} {g : Int → Option Ni} (h : Dg D g) (l : List Int) : Dg D (stayG g l (has D)) := by
  intro i hi
  obtain ⟨h1, h2⟩ := h i hi
  have e : stayG g l (has D) i = g i := by
    unfold stayG
    split
    · rfl
    · rename_i hn
      have h3 : has D (keyI i) = false := by
        cases e : has D (keyI i)
        · rfl
        · exact absurd (Or.inr e) hn
      rw [h3] at h1
      cases hg : g i with
      | none => rfl
      | some y => rw [hg] at h1; cases h1
  rw [e]
  exact ⟨h1, h2⟩
theorem stayG_step {g : Int → Option Ni} {l : List Int} {left : Lit → Bool} {i : Int} (j : Int) (hne : j ≠ i) : stayG g l (fun z => left z && !z.sameKey (keyI i)) j = stayG g l left j := by
  unfold stayG
  have e : (left (keyI j) && !(keyI j).sameKey (keyI i)) = left (keyI j) := by rw [sameKey_ne (keyI_ne hne)]; simp
  simp only [e]
theorem Dg.stays {D : DataW Value} {g : Int → Option Ni} {l : List Int} {left : Lit → Bool} (h : Dg D (stayG g l left)) {i : Int} (hi : i ∈ l) : Dg D (stayG g l (fun z => left z && !z.sameKey (keyI i))) := by
  intro j hj
  by_cases e : j = i
  · subst e
    have e1 : stayG g l (fun z => left z && !z.sameKey (keyI j)) j = stayG g l left j := by
      unfold stayG
      rw [if_pos (Or.inl hi), if_pos (Or.inl hi)]
    rw [e1]
    exact h j hj
  · rw [stayG_step j e]
    exact h j hj
theorem Dg.goes {D : DataW Value} {g : Int → Option Ni} {l : List Int} {left : Lit → Bool} (h : Dg D (stayG g l left)) {i : Int} (hI : InI i) (hi : i ∉ l) : Dg (D.del (keyI i)) (stayG g l (fun z => left z && !z.sameKey (keyI i))) := by
  intro j hj
  by_cases e : j = i
  · subst e
    have e1 : stayG g l (fun z => left z && !z.sameKey (keyI j)) j = none := by
      unfold stayG
      rw [if_neg]
      rintro (h1 | h1)
      · exact hi h1
      · dsimp only at h1
        rw [WideAt.sameKey_self (keyI_is hj)] at h1
        simp at h1
    rw [e1]
    exact ⟨has_del_same, fun y hy => by cases hy⟩
  · rw [stayG_step j e, has_del_other (keyI_ne e)]
    exact ⟨(h j hj).1, fun y hy z => by rw [atKey_del_other (keyI_ne e)]; exact (h j hj).2 y hy z⟩
theorem stayG_end {g : Int → Option Ni} {l : List Int} {left : Lit → Bool} (h : ∀ kl, left kl = false) (i : Int) : stayG g l left i = if i ∈ l then g i else none := by
  unfold stayG
  rw [h]
  simp
theorem stay_get {g : Int → Option Ni} {K : List Kt} {l : List Int} (hk : ∀ i, (g i).map Ni.fi = getK K i) (hs : ∀ i ∈ l, i ∈ idK K) (i : Int) : (if i ∈ l then g i else none).map Ni.fi = getK (tidyK K l) i := by
  rw [getK_tidy]
  by_cases h : i ∈ l
  · rw [if_pos h, if_pos h, hk i]
    obtain ⟨x, hx⟩ := getK_some (hs i h)
    unfold atK
    rw [hx]; rfl
  · rw [if_neg h, if_neg h]; rfl
/-- D's folder set -/
theorem setF_heap {w : World} {D M : Nat} {d : Dk} {x y : Fo} {fu : Int} (h : w.heap[D]? = some (.cells (dcells d x M fu) 66 (0, 0))) :
    ((w.setCell ⟨D, 2, none⟩ (.slice y.p y.n y.c)).setCell ⟨D, 3, none⟩ (.slice y.q y.m y.d)).heap[D]? = some (.cells (dcells d y M fu) 66 (0, 0)) := by
  rw [heap_setCell_same _ D 3 _ _ _ (heap_setCell_same w D 2 _ _ _ h)]
  rfl
theorem Gs.turnBy {α : Type} {E : Ec α} {w w' : World} {p : Option Addr} {n : Nat} {L : List α} (h : Gs E w p n L) {k : Nat} (hg : w.grownBy w' (some k)) (hk : ∀ o u, w.cell? ⟨k, o, none⟩ ≠ some u) : Gs E w' p n L := h.beside hk hg
theorem ranges_noR {w : World} {M R n : Nat} {D : DataW Value} {left : Lit → Bool} {cnt : Nat} (h : w.ranges Tryz.prog TE RV M R n D left cnt) (o : Nat) (u : Value) : w.cell? ⟨R, o, none⟩ ≠ some u := by
  obtain ⟨es, clock, since, seen, c0, _, _, _, _, hr, _⟩ := h
  intro hc
  simp [World.cell?, hr] at hc
theorem ranges_noM {w : World} {M R n : Nat} {D : DataW Value} {left : Lit → Bool} {cnt : Nat} (h : w.ranges Tryz.prog TE RV M R n D left cnt) (o : Nat) (u : Value) : w.cell? ⟨M, o, none⟩ ≠ some u := by
  obtain ⟨es, clock, since, seen, c0, hb, _⟩ := h
  intro hc
  simp [World.cell?, hb] at hc

set_option maxRecDepth 100000 in
set_option maxHeartbeats 1000000 in
theorem dsettle_any {w : World} {D M : Nat} {d : Dk} {x : Fo} {fu : Int} {g : Int → Option Ni} (h : Dx w D M d x fu g) (hK : irises (idK d.K)) (y : Fo) (hy : Fo.fit w y) (ho : y.fd.ok) (hs : ∀ i ∈ idsP y.fd, i ∈ idK d.K) :
    Calls Tryz.prog 29 #[.pointer (some ⟨D, 0, none⟩), y.v] w fun e w' => e = .returned (.tuple #[]) ∧ (∃ g', Dx w' D M { d with F := y.fd, K := tidyK d.K (idsP y.fd) } y fu g') ∧ Kp D M w w' := by
  have HX := Lib.hid h
  have HS := Lib.hid hs
  have HIR := Lib.hid (idsP_rises y.fd)
  have HKR := Lib.hid hK
  have HLEN := Lib.hid (show (idsP y.fd).length ≤ 2097152 by
    have h1 := nodup_len (irises_nodup (idsP_rises y.fd)) (m := (y.fd.l.map Nd.id) ++ (y.fd.p.map Cg.id)) (fun i hi => by
      rw [mem_idsP'] at hi
      rcases hi with ⟨s, hs⟩ | ⟨c, hc, _, rfl⟩
      · exact List.mem_append_left _ (find_in_ids hs)
      · exact List.mem_append_right _ (List.mem_map_of_mem hc))
    have h2 := ho.2.2
    simp only [List.length_append, List.length_map] at h1
    omega)
  have HIDS := Lib.hid fun W hW => fids_any y W hW ho
  have HFY := Lib.hid hy
  obtain ⟨p, l, cc, q, m, dd, L, Mc⟩ := y
  obtain ⟨P, hP⟩ : ∃ P, (Fo.fd ⟨p, l, cc, q, m, dd, L, Mc⟩) = P := ⟨_, rfl⟩
  have HP := Lib.hid hP
  rw [hP] at HS HIR HLEN HIDS ⊢
  unfold Fo.v at HIDS ⊢
  dsimp only at HIDS ⊢
  obtain ⟨wA, hA⟩ : ∃ A, w.alloc (.cells #[.slice p l cc, .slice q m dd] 64) = A := ⟨_, rfl⟩
  obtain ⟨G, hG⟩ : ∃ G, w.heap.size = G := ⟨_, rfl⟩
  have HBA : Hid (Below w.heap.size w wA) := Lib.hid (by rw [← hA]; exact (Below.refl _ _).alloc (Nat.le_refl _) _)
  have HXA := Lib.hid (h.later HBA.out)
  have HI : Hid (Fw wA G ⟨p, l, cc, q, m, dd, L, Mc⟩) := Lib.hid (by rw [← hA, ← hG]; exact heap_alloc_new _ _)
  have hDG : D ≠ G := by have := h.lt; omega
  have HNX := Lib.hid h.nix
  obtain ⟨wS, hS⟩ : ∃ W, (wA.setCell ⟨D, 2, none⟩ (.slice p l cc)).setCell ⟨D, 3, none⟩ (.slice q m dd) = W := ⟨_, rfl⟩
  have HKS : Hid (Kp D M w wS) := Lib.hid (by rw [← hS]; exact ((Kp.of_below HBA.out).setD _ _).setD _ _)
  have HDS : Hid (wS.heap[D]? = some (.cells (dcells d ⟨p, l, cc, q, m, dd, L, Mc⟩ M fu) 66 (0, 0))) := Lib.hid (by rw [← hS]; exact setF_heap (y := ⟨p, l, cc, q, m, dd, L, Mc⟩) HXA.out.b)
  have HDL : Hid (D < wS.heap.size) := Lib.hid (Array.getElem?_eq_some_iff.1 HDS.out).1
  have HFS : Hid (Fo.fit wS ⟨p, l, cc, q, m, dd, L, Mc⟩) := Lib.hid (HFY.out.kp HKS.out HNX.out.1 HNX.out.2)
  have HMS : Hid (Mi wS M d.K.length g) := Lib.hid (HXA.out.m.same (by rw [← hS, Below.heap_setCell _ _ _ _ (fun e => HXA.out.ne e.symm), Below.heap_setCell _ _ _ _ (fun e => HXA.out.ne e.symm)]))
  have HIS : Hid (Fw wS G ⟨p, l, cc, q, m, dd, L, Mc⟩) := Lib.hid (by
    unfold Fw
    rw [← hS, Below.heap_setCell _ _ _ _ (fun e => hDG e.symm), Below.heap_setCell _ _ _ _ (fun e => hDG e.symm)]
    exact HI.out)
  obtain ⟨i0, i1⟩ := HI.out.cells
  obtain ⟨j0, j1⟩ := HIS.out.cells
  have f2 := HXA.out.frozen 2
  have f3 := HXA.out.frozen 3
  obtain ⟨_, _, c2, c3, c4, _⟩ := HXA.out.cells
  clear h hs hK ho hy hP
  go_enter Tryz.func29, Tryz.ntmps29
  go_wp2_with fail
  clear i0 i1 j0 j1 f2 f3 c2 c3 c4 hA hG
  refine (HIDS.out _ HFS.out).mono ?_
  rintro e w2 ⟨pi, li, ci, rfl, hgi, hb2⟩
  clear hS
  have hli := hgi.len
  have HGS := Lib.hid hgi.gs
  have HX2 := Lib.hid hb2
  have HD2 : Hid (w2.heap[D]? = some (.cells (dcells d ⟨p, l, cc, q, m, dd, L, Mc⟩ M fu) 66 (0, 0))) := Lib.hid (by rw [hb2.block D HDL.out]; exact HDS.out)
  have HM2 := Lib.hid (HMS.out.later hb2)
  have HKP2 := Lib.hid (HKS.out.then_below hb2)
  have HLI : Hid (li ≤ 2097152) := Lib.hid (by rw [← hli]; exact HLEN.out)
  clear hgi hb2 hli
  have c4 : w2.cell? ⟨D, 4, none⟩ = some (.map (some M)) := by rw [cell_of_row _ _ _ _ _ _ HD2.out]; rfl
  obtain ⟨h0, D0, hown, hd⟩ := HM2.out
  have HOWN := Lib.hid hown
  have HD0 := Lib.hid (hd.start (idsP P))
  have H0 := Lib.hid h0
  clear hown hd h0
  go_wp2_with (at_range; refine wpList_range_own _ rfl _ TD rfl TE TV lawI undD _ M d.K.length D0 rfl HOWN.out ?_; intro w0 hrg0 hg0 hs0; have HRG0 := Lib.hid hrg0; have HG0 := Lib.hid hg0; clear hrg0 hg0 hs0)
  go_frame
  obtain ⟨R, hR⟩ : ∃ R, w2.heap.size = R := ⟨_, rfl⟩
  have HSR : Hid (w2.heap.size = R) := Lib.hid hR
  have HWR : Hid (w.heap.size ≤ R) := Lib.hid (by rw [← hR]; exact HKP2.out.size)
  have HDR : Hid (D < R) := Lib.hid (by rw [← hR]; exact (Array.getElem?_eq_some_iff.1 HD2.out).1)
  rw [hR] at HRG0
  simp only [hR]
  clear hR c4
  go_loopw [5] (fun _ wr => ∃ (left : Lit → Bool) (cnt : Nat) (Dd : DataW Value), wr.ranges Tryz.prog TE RV M R d.K.length Dd left cnt ∧ Hid (Dg Dd (stayG g (idsP P) left)) ∧ Hid (Gs encI wr pi li (idsP P)) ∧ Hid (Kp D M w wr) ∧ Hid (wr.heap[D]? = some (.cells (dcells d ⟨p, l, cc, q, m, dd, L, Mc⟩ M fu) 66 (0, 0))))
    (fun _ wr => wr.rangeLeft M R)
  case atStart =>
    exact ⟨_, _, D0, HRG0.out, HD0, Lib.hid (HGS.out.later ((Below.refl _ _).grown HG0.out (Nat.le_refl _) (fun j hj => by cases hj))), Lib.hid (HKP2.out.grown HG0.out (fun j hj => by cases hj)), Lib.hid (by rw [HG0.out.block D (by rw [HSR.out]; exact HDR.out) (by simp)]; exact HD2.out)⟩
  case round =>
    obtain ⟨left, cnt, Dd, hrg, HDD, HGS3, HKP3, HD3⟩ := hrel
    have HRG := Lib.hid hrg
    clear hrg HG0 HRG0 HD2 HGS HKP2 HM2
    go_wp2_with (at_next; refine wpList_next_ranges _ rfl _ rfl TE lawI RV (Value.int .i64) Sv.v (fun key kl hk => by obtain ⟨x, hx, _⟩ := Maps.keyOf_int_inv undE hk; exact ⟨x, hx⟩) (fun v y hv => (RV_inv hv).1) M R d.K.length Dd left cnt rfl HRG.out ?_ ?_)
    · intro hc0 hl0
      go_wp2
      go_end0
      refine ⟨rfl, ⟨fun i => if i ∈ idsP P then g i else none, ⟨HD3.out, HFY.out.kp HKP3.out HNX.out.1 HNX.out.2, HP.out, ?_, fun i y hy => ?_, fun i => ?_, HX.out.u, HX.out.ui⟩⟩, HKP3.out⟩
      · have hm : Mi wr M d.K.length (fun i => if i ∈ idsP P then g i else none) := by
          refine ⟨fun i y hy => ?_, Dd, HRG.out.owns, ?_⟩
          · dsimp only at hy
            split at hy
            · exact H0.out i y hy
            · cases hy
          · have e : stayG g (idsP P) left = fun i => if i ∈ idsP P then g i else none := funext fun i => stayG_end hl0 i
            rw [← e]
            exact HDD.out
        refine hm.exact (by rw [idK_tidy]; exact HIR.out) fun i => ?_
        exact stay_get HX.out.k HS.out i
      · split at hy
        · exact (HX.out.n i y hy).kp HKP3.out HNX.out.1 HNX.out.2
        · cases hy
      · exact stay_get HX.out.k HS.out i
    · intro i c kl yd yp w1 cnt1 hkey hlk hv hat hrg hlt hg hs hen
      obtain ⟨i', ei, hkl, hwf⟩ := Maps.keyOf_int_inv undE hkey
      simp only [Value.int.injEq, true_and] at ei
      subst ei
      have hkI : kl = keyI i := hkl
      subst hkI
      have hi : InI i := wfI hwf
      have HI1 := Lib.hid hi
      have HG1 : Hid (Gs encI w1 pi li (idsP P)) := Lib.hid (HGS3.out.turnBy hg (ranges_noR HRG.out))
      have HK1 : Hid (Kp D M w w1) := Lib.hid (HKP3.out.grown hg (fun j hj => by cases hj; exact HWR.out))
      have HD1 : Hid (w1.heap[D]? = some (.cells (dcells d ⟨p, l, cc, q, m, dd, L, Mc⟩ M fu) 66 (0, 0))) := Lib.hid (by rw [hg.block D (Array.getElem?_eq_some_iff.1 HD3.out).1 (by have := HDR.out; simp; omega)]; exact HD3.out)
      have HRG1 := Lib.hid hrg
      have HLT := Lib.hid hlt
      have HBS := Lib.hid fun W hW => bsI_any pi li ci (idsP P) i W hW HLI.out HIR.out
      clear hkey hlk hv hat hrg hlt hg hs hwf hi hkl
      by_cases hin : i ∈ idsP P
      · have HDN := Lib.hid (HDD.out.stays hin)
        have hdin : decide (i ∈ idsP P) = true := decide_eq_true hin
        rw [hdin] at HBS
        clear hin hdin
        go_wp2_with (go_at_call 66; refine (HBS.out _ HG1.out).mono ?_; rintro e w3 ⟨k, rfl, nq, rfl⟩)
        have HB3 : Hid (Below w1.heap.size w1 (w1.drewN nq)) := Lib.hid (below_drewN (Below.refl _ _) nq)
        generalize w1.drewN nq = w3 at *
        have HRG3 := Lib.hid (ranges_later HRG1.out HB3.out)
        clear hen
        refine ⟨?_, by rw [HRG3.out.left_eq, HRG.out.left_eq]; exact HLT.out⟩
        first
          | exact ⟨_, cnt1, Dd, HRG3.out, HDN, Lib.hid (HG1.out.later HB3.out), Lib.hid (HK1.out.then_below HB3.out), Lib.hid (by rw [HB3.out.block D (Array.getElem?_eq_some_iff.1 HD1.out).1]; exact HD1.out)⟩
          | ((repeat apply Exists.intro); refine ⟨?_, rfl⟩; exact ⟨_, cnt1, Dd, HRG3.out, HDN, Lib.hid (HG1.out.later HB3.out), Lib.hid (HK1.out.then_below HB3.out), Lib.hid (by rw [HB3.out.block D (Array.getElem?_eq_some_iff.1 HD1.out).1]; exact HD1.out)⟩)
      · have HDN := Lib.hid (HDD.out.goes HI1.out hin)
        have hdin : decide (i ∈ idsP P) = false := decide_eq_false hin
        rw [hdin] at HBS
        clear hin hdin
        have HB3 : Hid (∀ nq, Below w1.heap.size w1 (w1.drewN nq)) := Lib.hid (fun nq => below_drewN (Below.refl _ _) nq)
        go_wp2_with (first
          | (go_at_call 66; refine (HBS.out _ HG1.out).mono ?_; rintro e w3 ⟨k, rfl, nq, rfl⟩; have HB3 := Lib.hid (HB3.out nq); generalize w1.drewN nq = w3 at *; have HRG3 := Lib.hid (ranges_later HRG1.out HB3.out); have HG3 := Lib.hid (HG1.out.later HB3.out); have HK3 := Lib.hid (HK1.out.then_below HB3.out); have HD4 : Hid (w3.heap[D]? = some (.cells (dcells d ⟨p, l, cc, q, m, dd, L, Mc⟩ M fu) 66 (0, 0))) := Lib.hid (by rw [HB3.out.block D (Array.getElem?_eq_some_iff.1 HD1.out).1]; exact HD1.out); have c4 : w3.cell? ⟨D, 4, none⟩ = some (.map (some M)) := by (rw [cell_of_row _ _ _ _ _ _ HD4.out]; rfl))
          | (at_delete; refine wpList_delete_ranges _ rfl _ _ TD TE rfl TV lawI undD _ M R d.K.length Dd _ cnt1 rfl HRG3.out _ _ rfl (keyI_of HI1.out) ?_; intro w4 cnt2 hrg4 hle4 hturn4; rw [Maps.strike_twice] at hrg4; have HRG4 := Lib.hid hrg4; have HLE := Lib.hid hle4; have HG4 := Lib.hid (HG3.out.turnBy hturn4.grown (ranges_noM HRG3.out)); have HK4 := Lib.hid (HK3.out.map hturn4.grown); have HD5 : Hid (w4.heap[D]? = some (.cells (dcells d ⟨p, l, cc, q, m, dd, L, Mc⟩ M fu) 66 (0, 0))) := Lib.hid (by rw [hturn4.grown.block D (Array.getElem?_eq_some_iff.1 HD4.out).1 (fun e => HX.out.ne (by simpa using e))]; exact HD4.out); clear hrg4 hle4 hturn4))
        clear hen c4
        go_frame
        refine ⟨?_, by rw [HRG4.out.left_eq, HRG.out.left_eq]; have := HLT.out; have := HLE.out; omega⟩
        first
          | exact ⟨_, cnt2, _, HRG4.out, HDN, HG4, HK4, HD5⟩
          | ((repeat apply Exists.intro); refine ⟨?_, rfl⟩; exact ⟨_, cnt2, _, HRG4.out, HDN, HG4, HK4, HD5⟩)
end Go.Proofs.YtncbgddgkpaoeaaGreat
