/- slices.Sort, slices.Compact, laid at rows of numbers -/
import Derived.Test.YtpfbfhigelbfcaaGreatSd10
import Derived.Shelf.SortM.SortNone
import Derived.Sort.EveryDepth
import Derived.Shelf.SlicesG.CompactI
set_option linter.unusedSimpArgs false
set_option linter.unusedVariables false
namespace Go.Proofs.YtpfbfhigelbfcaaGreat
open Go.RowKit Go.Lib Go.Shelf
def sortI_ren : Go.Shelf.Ren := ⟨fun | 5 => 99 | 8 => 128 | 7 => 127 | 19 => 159 | 20 => 160 | 10 => 150 | 11 => 151 | 12 => 152 | 13 => 153 | 14 => 154 | 15 => 155 | 16 => 156 | 17 => 157 | 18 => 158 | 30 => 169 | 31 => 170 | 32 => 171 | 33 => 172 | 34 => 173 | 35 => 96 | 40 => 184 | n => n,
 fun | 23 => 40 | 25 => 3 | 3 => 3 | 32 => 177 | 22 => 40 | 0 => 0 | 44 => 196 | 46 => 22 | 4 => 4 | 36 => 189 | 35 => 188 | 41 => 103 | 5 => 5 | 9 => 9 | 53 => 203 | 57 => 207 | 63 => 214 | 64 => 70 | n => n,
 fun | n => n⟩
theorem sortI : Go.Proofs.SlLaysM.n5 Tryz.prog sortI_ren := {
 mixed := by kernel_rfl,
 f5 := ⟨Tryz.f99.name, by decide, Tryz.func99.trans (congrArg some (by kernel_rfl))⟩,
 f7 := ⟨Tryz.f127.name, by decide, Tryz.func127.trans (congrArg some (by kernel_rfl))⟩,
 f8 := Tryz.func128.trans (congrArg some (by kernel_rfl)),
 f10 := ⟨Tryz.f150.name, by decide, Tryz.func150.trans (congrArg some (by kernel_rfl))⟩,
 f11 := ⟨Tryz.f151.name, by decide, Tryz.func151.trans (congrArg some (by kernel_rfl))⟩,
 f12 := ⟨Tryz.f152.name, by decide, Tryz.func152.trans (congrArg some (by kernel_rfl))⟩,
 f13 := ⟨Tryz.f153.name, by decide, Tryz.func153.trans (congrArg some (by kernel_rfl))⟩,
 f14 := ⟨Tryz.f154.name, by decide, Tryz.func154.trans (congrArg some (by kernel_rfl))⟩,
 f15 := ⟨Tryz.f155.name, by decide, Tryz.func155.trans (congrArg some (by kernel_rfl))⟩,
 f16 := ⟨Tryz.f156.name, by decide, Tryz.func156.trans (congrArg some (by kernel_rfl))⟩,
 f17 := ⟨Tryz.f157.name, by decide, Tryz.func157.trans (congrArg some (by kernel_rfl))⟩,
 f18 := ⟨Tryz.f158.name, by decide, Tryz.func158.trans (congrArg some (by kernel_rfl))⟩,
 f19 := Tryz.func159.trans (congrArg some (by kernel_rfl)),
 f20 := Tryz.func160.trans (congrArg some (by kernel_rfl)),
 f30 := ⟨Tryz.f169.name, by decide, Tryz.func169.trans (congrArg some (by kernel_rfl))⟩,
 f31 := Tryz.func170.trans (congrArg some (by kernel_rfl)),
 f32 := Tryz.func171.trans (congrArg some (by kernel_rfl)),
 f33 := ⟨Tryz.f172.name, by decide, Tryz.func172.trans (congrArg some (by kernel_rfl))⟩,
 f34 := ⟨Tryz.f173.name, by decide, Tryz.func173.trans (congrArg some (by kernel_rfl))⟩,
 f35 := ⟨Tryz.f96.name, by decide, Tryz.func96.trans (congrArg some (by kernel_rfl))⟩,
 f40 := ⟨Tryz.f184.name, by decide, Tryz.func184.trans (congrArg some (by kernel_rfl))⟩,
 t0 := Tryz.underlying0,
 a0 := Tryz.isAgg0,
 z0 := Tryz.sizeOf0,
 v0 := Tryz.zeroValue0,
 t3 := Tryz.underlying3,
 a3 := Tryz.isAgg3,
 z3 := Tryz.sizeOf3,
 v3 := Tryz.zeroValue3,
 t4 := Tryz.underlying4,
 a4 := Tryz.isAgg4,
 z4 := Tryz.sizeOf4,
 v4 := Tryz.zeroValue4,
 t5 := Tryz.underlying5,
 a5 := Tryz.isAgg5,
 z5 := Tryz.sizeOf5,
 v5 := Tryz.zeroValue5,
 t9 := Tryz.underlying9,
 a9 := Tryz.isAgg9,
 z9 := Tryz.sizeOf9,
 v9 := Tryz.zeroValue9,
 t22 := Tryz.underlying40,
 a22 := Tryz.isAgg40,
 z22 := Tryz.sizeOf40,
 v22 := Tryz.zeroValue40,
 t23 := Tryz.underlying40,
 a23 := Tryz.isAgg40,
 z23 := Tryz.sizeOf40,
 v23 := Tryz.zeroValue40,
 t25 := Tryz.underlying3,
 a25 := Tryz.isAgg3,
 z25 := Tryz.sizeOf3,
 v25 := Tryz.zeroValue3,
 t32 := Tryz.underlying177,
 a32 := Tryz.isAgg177,
 z32 := Tryz.sizeOf177,
 v32 := Tryz.zeroValue177,
 t35 := Tryz.underlying188,
 a35 := Tryz.isAgg188,
 z35 := Tryz.sizeOf188,
 v35 := Tryz.zeroValue188,
 t36 := Tryz.underlying189,
 a36 := Tryz.isAgg189,
 z36 := Tryz.sizeOf189,
 v36 := Tryz.zeroValue189,
 t41 := Tryz.underlying103,
 a41 := Tryz.isAgg103,
 z41 := Tryz.sizeOf103,
 v41 := Tryz.zeroValue103,
 t44 := Tryz.underlying196,
 a44 := Tryz.isAgg196,
 z44 := Tryz.sizeOf196,
 v44 := Tryz.zeroValue196,
 t46 := Tryz.underlying22,
 a46 := Tryz.isAgg22,
 z46 := Tryz.sizeOf22,
 v46 := Tryz.zeroValue22,
 t53 := Tryz.underlying203,
 a53 := Tryz.isAgg203,
 z53 := Tryz.sizeOf203,
 v53 := Tryz.zeroValue203,
 t57 := Tryz.underlying207,
 a57 := Tryz.isAgg207,
 z57 := Tryz.sizeOf207,
 v57 := Tryz.zeroValue207,
 t63 := Tryz.underlying214,
 a63 := Tryz.isAgg214,
 z63 := Tryz.sizeOf214,
 v63 := Tryz.zeroValue214,
 t64 := Tryz.underlying70,
 a64 := Tryz.isAgg70,
 z64 := Tryz.sizeOf70,
 v64 := Tryz.zeroValue70 }
def compI_ren : Go.Shelf.Ren := ⟨fun | 43 => 140 | n => n,
 fun | 22 => 40 | 23 => 3 | 3 => 3 | 4 => 4 | 0 => 0 | n => n,
 fun | n => n⟩
theorem compI : Go.Proofs.SlLaysN.n43 Tryz.prog compI_ren := {
 mixed := by kernel_rfl,
 f43 := ⟨Tryz.f140.name, by decide, Tryz.func140.trans (congrArg some (by kernel_rfl))⟩,
 t0 := Tryz.underlying0,
 a0 := Tryz.isAgg0,
 z0 := Tryz.sizeOf0,
 v0 := Tryz.zeroValue0,
 t3 := Tryz.underlying3,
 a3 := Tryz.isAgg3,
 z3 := Tryz.sizeOf3,
 v3 := Tryz.zeroValue3,
 t4 := Tryz.underlying4,
 a4 := Tryz.isAgg4,
 z4 := Tryz.sizeOf4,
 v4 := Tryz.zeroValue4,
 t22 := Tryz.underlying40,
 a22 := Tryz.isAgg40,
 z22 := Tryz.sizeOf40,
 v22 := Tryz.zeroValue40,
 t23 := Tryz.underlying3,
 a23 := Tryz.isAgg3,
 z23 := Tryz.sizeOf3,
 v23 := Tryz.zeroValue3,
 i23 := by kernel_rfl }
/-! ### rows of numbers behind a sort -/
theorem holdsI {w : World} {B g n c : Nat} {L : List Int} (h : Gw encI w B (.slice (some ⟨g, 0, none⟩) n c) L) : Go.Sort.Holds (Value.int .i64) w g 0 L.toArray := by
 obtain ⟨hn, hB, hc, hm, cur, hg, hs, ht⟩ := h.block
 intro j hj
 refine ⟨?_, by simp [World.frozen?, hg]⟩
 have hj' : j < n := by simpa [hn] using hj
 rw [flatI_eq, show encI.k = 1 from rfl, Nat.mul_one] at ht
 have h3 : w.cell? ⟨g, 0 + j, none⟩ = cur[j]? := by simp [World.cell?, hg]
 have h4 : cur[j]? = (L.map (Value.int .i64))[j]? := by
  rw [← ht, List.getElem?_take_of_lt hj', Array.getElem?_toList]
 have hjL : j < L.length := by omega
 rw [h3, h4, List.getElem?_map, List.getElem?_eq_getElem hjL, getElem!_pos _ j hj]
 rfl
theorem putI_gw {w : World} {B g n c : Nat} {L : List Int} (h : Gw encI w B (.slice (some ⟨g, 0, none⟩) n c) L) (hB : B ≤ w.heap.size) (d : List Int) (hd : d.length = n) (k : Nat) (hk : k ≤ n) (m : Nat) (os : Array Obj) :
 Gw encI (Go.Sort.grow (Go.Sort.putRow (Value.int .i64) (Go.Sort.ahead w m) g 0 d.toArray) os) B (.slice (some ⟨g, 0, none⟩) k c) (d.take k) ∧ Below B w (Go.Sort.grow (Go.Sort.putRow (Value.int .i64) (Go.Sort.ahead w m) g 0 d.toArray) os) := by
 obtain ⟨hnl, hBg, hc, hm, cur, hg, hs, ht⟩ := h.block
 have hgl : g < w.heap.size := (Array.getElem?_eq_some_iff.1 hg).1
 constructor
 ·have hgw : (Go.Sort.grow (Go.Sort.putRow (Value.int .i64) (Go.Sort.ahead w m) g 0 d.toArray) os).heap[g]? = some (.cells (Go.Sort.putCells (Value.int .i64) 0 d.toArray cur) encI.t (0, 0)) := by
   rw [Go.Sort.heap_grow_old _ _ (by simpa [Go.Sort.putRow, Go.Sort.mapBlock, Go.Sort.ahead] using hgl)]
   simp [Go.Sort.putRow, Go.Sort.mapBlock, Go.Sort.ahead, Array.getElem?_modify, hg, Go.Sort.onCells]
  have hl : (d.take k).length = k := by rw [List.length_take]; omega
  rw [show encI.k = 1 from rfl, Nat.mul_one] at hs
  have := Gw.mk (E := encI) (w := Go.Sort.grow (Go.Sort.putRow (Value.int .i64) (Go.Sort.ahead w m) g 0 d.toArray) os) (B := B) (g := g) (c := c) (L := d.take k) hBg (by rw [hl]; omega) hm hgw (by rw [show encI.k = 1 from rfl, Nat.mul_one]; simpa [Go.Sort.putCells] using hs) (by
   rw [hl, flatI_eq, show encI.k = 1 from rfl, Nat.mul_one]
   apply List.ext_getElem?
   intro j
   by_cases hj : j < k
   ·rw [List.getElem?_take_of_lt hj, Array.getElem?_toList, List.getElem?_map, List.getElem?_take_of_lt hj]
    have hjc : j < cur.size := by omega
    have hjd : j < d.length := by omega
    simp [Go.Sort.putCells, hjc, hjd]
   ·rw [List.getElem?_take_eq_none (by omega), List.getElem?_eq_none (by rw [List.length_map, hl]; omega)])
  rwa [hl] at this
 ·refine (Below.refl _ _).grown (row := some g) ⟨rfl, rfl, rfl, ?_, fun k hk hne => ?_⟩ hB (fun k hk => by injection hk with hk; omega)
  ·simp [Go.Sort.grow, Go.Sort.putRow, Go.Sort.mapBlock, Go.Sort.ahead]
  ·rw [Go.Sort.heap_grow_old _ _ (by simpa [Go.Sort.putRow, Go.Sort.mapBlock, Go.Sort.ahead] using hk)]
   have : g ≠ k := fun e => hne (by rw [e])
   simp [Go.Sort.putRow, Go.Sort.mapBlock, Go.Sort.ahead, Array.getElem?_modify, this]
/-! ### what Compact leaves of a row that doesn't fall -/
theorem compact_upto {zs : List Int} (hs : zs.Pairwise (· ≤ ·)) : ∀ m, m ≤ zs.length → irises (Lib.compactUpTo zs.toArray m) ∧ (∀ x, x ∈ Lib.compactUpTo zs.toArray m ↔ x ∈ zs.take m) ∧ (Lib.compactUpTo zs.toArray m).length ≤ m
 | 0, _ => ⟨List.Pairwise.nil, fun x => by simp [Lib.compactUpTo], by simp [Lib.compactUpTo]⟩
 | m + 1, hm => by
   obtain ⟨h1, h2, h3⟩ := compact_upto hs m (by omega)
   have hz : zs.toArray[m]! = zs[m]'hm := by rw [getElem!_pos _ m (by simp; omega)]; simp
   have ht : zs.take (m + 1) = zs.take m ++ [zs[m]'hm] := List.take_succ_eq_append_getElem hm
   have hle := (List.pairwise_iff_getElem.1 hs)
   rw [Lib.compactUpTo_succ, hz, ht]
   by_cases h0 : m = 0
   ·subst h0
    have hk : Lib.keeps zs.toArray 0 = true := by simp [Lib.keeps]
    rw [if_pos hk]
    have e0 : Lib.compactUpTo zs.toArray 0 = [] := rfl
    rw [e0]
    exact ⟨List.pairwise_singleton _ _, fun x => by simp, by simp⟩
   ·have hz1 : zs.toArray[m - 1]! = zs[m - 1]'(by omega) := by rw [getElem!_pos _ (m - 1) (by simp; omega)]; simp
    by_cases he : zs[m]'hm = zs[m - 1]'(by omega)
    ·have hk : Lib.keeps zs.toArray m = false := Lib.keeps_neg (by omega) (by rw [hz, hz1]; exact he)
     rw [hk]
     simp only [Bool.false_eq_true, if_false, List.append_nil]
     refine ⟨h1, fun x => ?_, by omega⟩
     rw [h2 x, List.mem_append, List.mem_singleton]
     constructor
     ·exact Or.inl
     ·rintro (hx | hx)
      ·exact hx
      ·subst hx
       rw [he]
       exact List.mem_take_iff_getElem.2 ⟨m - 1, by omega, rfl⟩
    ·have hk : Lib.keeps zs.toArray m = true := Lib.keeps_pos (by rw [hz, hz1]; exact he)
     rw [if_pos hk]
     refine ⟨?_, fun x => by rw [List.mem_append, List.mem_append, h2 x], by rw [List.length_append]; simp; omega⟩
     unfold irises
     rw [List.pairwise_append]
     refine ⟨h1, List.pairwise_singleton _ _, fun a ha b hb => ?_⟩
     rw [List.mem_singleton] at hb
     subst hb
     obtain ⟨i, hi, rfl⟩ := List.mem_take_iff_getElem.1 ((h2 a).1 ha)
     have hb1 : zs[i]'(by omega) ≤ zs[m - 1]'(by omega) := by
      by_cases hi1 : i = m - 1
      ·subst hi1; exact Int.le_refl _
      ·exact hle i (m - 1) (by omega) (by omega) (by omega)
     have hb2 : zs[m - 1]'(by omega) ≤ zs[m]'hm := hle (m - 1) m (by omega) hm (by omega)
     omega
theorem compact_of {zs : List Int} (hs : zs.Pairwise (· ≤ ·)) : irises (Lib.compact zs) ∧ (∀ x, x ∈ Lib.compact zs ↔ x ∈ zs) ∧ (Lib.compact zs).length ≤ zs.length := by
 obtain ⟨h1, h2, h3⟩ := compact_upto hs zs.length (Nat.le_refl _)
 exact ⟨h1, fun x => by unfold Lib.compact; rw [h2, List.take_length], h3⟩
set_option maxRecDepth 100000 in
theorem sortI_any (B n c : Nat) (p : Option Addr) (L : List Int) (w : World) (h : Gw encI w B (.slice p n c) L) (hB : B ≤ w.heap.size) (hn : n ≤ 4194304) :
 Calls Tryz.prog 99 #[.slice p n c] w fun e w' => e = .returned (.tuple #[]) ∧ ∃ L', Gw encI w' B (.slice p n c) L' ∧ L'.Pairwise (· ≤ ·) ∧ (∀ x, x ∈ L' ↔ x ∈ L) ∧ Below B w w' := by
 have hlen := h.len
 cases p with
 | none =>
   obtain rfl := h.nilN
   obtain rfl : L = [] := List.length_eq_zero_iff.1 hlen
   have hcon := AnyM.slices_Sort_int_none sortI none c w
   change Calls Tryz.prog 99 _ _ _ at hcon
   refine hcon.mono ?_
   rintro e w' ⟨rfl, rfl⟩
   exact ⟨rfl, [], h, List.Pairwise.nil, fun _ => Iff.rfl, Below.refl _ _⟩
 | some ad =>
   obtain ⟨g, rfl⟩ := h.atG
   obtain ⟨hnl, hBg, hc, hm, cur, hg, hs, ht⟩ := h.block
   have hcon := Go.calls_of_every_depth fun D => AnySM.slices_Sort_int_in sortI D g 0 c L w (holdsI h) (Array.getElem?_eq_some_iff.1 hg).1 (by omega)
   change Calls Tryz.prog 99 _ _ _ at hcon
   rw [hlen] at hcon
   refine hcon.mono ?_
   rintro e w' ⟨rfl, m, os, rfl⟩
   have hp := List.mergeSort_perm L (fun x y => decide (x ≤ y))
   have hl : (L.mergeSort fun x y => decide (x ≤ y)).length = n := by rw [hp.length_eq, hlen]
   obtain ⟨h1, h2⟩ := putI_gw h hB _ hl n (Nat.le_refl _) m os
   rw [List.take_of_length_le (by omega)] at h1
   refine ⟨rfl, _, h1, ?_, fun x => hp.mem_iff, h2⟩
   refine (List.pairwise_mergeSort (fun a b c h1 h2 => ?_) (fun a b => ?_) L).imp (fun h => of_decide_eq_true h)
   ·simp only [decide_eq_true_eq] at *; omega
   ·simp only [Bool.or_eq_true, decide_eq_true_eq]; omega
set_option maxRecDepth 100000 in
theorem compI_any (B n c : Nat) (p : Option Addr) (L : List Int) (w : World) (h : Gw encI w B (.slice p n c) L) (hB : B ≤ w.heap.size) (hn : n ≤ 4194304) (hs : L.Pairwise (· ≤ ·)) :
 Calls Tryz.prog 140 #[.slice p n c] w fun e w' => ∃ k L', e = .returned (.slice p k c) ∧ Gw encI w' B (.slice p k c) L' ∧ irises L' ∧ (∀ x, x ∈ L' ↔ x ∈ L) ∧ Below B w w' := by
 have hlen := h.len
 cases p with
 | none =>
   obtain rfl := h.nilN
   obtain rfl : L = [] := List.length_eq_zero_iff.1 hlen
   have hcon := AnyG.slices_Compact_int_empty compI none c w
   change Calls Tryz.prog 140 _ _ _ at hcon
   refine hcon.mono ?_
   rintro e w' ⟨rfl, rfl⟩
   exact ⟨0, [], rfl, h, List.Pairwise.nil, fun _ => Iff.rfl, Below.refl _ _⟩
 | some ad =>
   obtain ⟨g, rfl⟩ := h.atG
   obtain ⟨hnl, hBg, hc, hm, cur, hg, hss, ht⟩ := h.block
   have hcon := AnyG.slices_Compact_int compI g 0 c L w (holdsI h) (by omega) (by omega)
   change Calls Tryz.prog 140 _ _ _ at hcon
   rw [hlen] at hcon
   refine hcon.mono ?_
   rintro e w' ⟨rfl, m, rfl⟩
   obtain ⟨c1, c2, c3⟩ := compact_of hs
   generalize Lib.compact L = C at *
   have hl : (C ++ List.replicate (n - C.length) 0).length = n := by rw [List.length_append, List.length_replicate]; omega
   obtain ⟨h1, h2⟩ := putI_gw h hB _ hl C.length (by omega) m #[]
   rw [Go.Sort.grow_empty] at h1 h2
   rw [List.take_left' rfl] at h1
   exact ⟨_, C, rfl, h1, c1, c2, h2⟩
end Go.Proofs.YtpfbfhigelbfcaaGreat

