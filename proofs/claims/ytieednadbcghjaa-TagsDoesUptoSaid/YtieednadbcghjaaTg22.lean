/- slices.Sort, slices.Compact, laid at rows of numbers -/
import Derived.Test.YtieednadbcghjaaTg1
import Derived.Test.YtieednadbcghjaaTg9
import Derived.Shelf.SortM.SortNone
import Derived.Sort.EveryDepth
import Derived.Shelf.SlicesG.CompactI
set_option linter.unusedSimpArgs false
set_option linter.unusedVariables false
namespace Go.Proofs.Ytieednadbcghjaa
set_option linter.unusedVariables false
open Go.RowKit Go.Lib Go.Shelf

def sortI_ren : Go.Shelf.Ren := ⟨fun | 5 => 53 | 8 => 61 | 7 => 60 | 19 => 72 | 20 => 73 | 10 => 64 | 11 => 65 | 12 => 66 | 13 => 67 | 14 => 68 | 15 => 69 | 16 => 56 | 17 => 70 | 18 => 71 | 30 => 75 | 31 => 76 | 32 => 77 | 33 => 78 | 34 => 79 | 35 => 62 | 40 => 80 | n => n,
  fun | 23 => 34 | 25 => 3 | 3 => 3 | 32 => 86 | 22 => 34 | 0 => 0 | 44 => 99 | 46 => 27 | 4 => 4 | 36 => 93 | 35 => 92 | 41 => 70 | 5 => 5 | 9 => 9 | 53 => 101 | 57 => 105 | 63 => 107 | 64 => 108 | n => n,
  fun | n => n⟩
theorem sortI : Go.Proofs.SlLaysM.n5 Try.prog sortI_ren := {
  mixed := by kernel_rfl,
  f5 := ⟨Try.f53.name, by decide, Try.func53.trans (congrArg some (by kernel_rfl))⟩,
  f7 := ⟨Try.f60.name, by decide, Try.func60.trans (congrArg some (by kernel_rfl))⟩,
  f8 := Try.func61.trans (congrArg some (by kernel_rfl)),
  f10 := ⟨Try.f64.name, by decide, Try.func64.trans (congrArg some (by kernel_rfl))⟩,
  f11 := ⟨Try.f65.name, by decide, Try.func65.trans (congrArg some (by kernel_rfl))⟩,
  f12 := ⟨Try.f66.name, by decide, Try.func66.trans (congrArg some (by kernel_rfl))⟩,
  f13 := ⟨Try.f67.name, by decide, Try.func67.trans (congrArg some (by kernel_rfl))⟩,
  f14 := ⟨Try.f68.name, by decide, Try.func68.trans (congrArg some (by kernel_rfl))⟩,
  f15 := ⟨Try.f69.name, by decide, Try.func69.trans (congrArg some (by kernel_rfl))⟩,
  f16 := ⟨Try.f56.name, by decide, Try.func56.trans (congrArg some (by kernel_rfl))⟩,
  f17 := ⟨Try.f70.name, by decide, Try.func70.trans (congrArg some (by kernel_rfl))⟩,
  f18 := ⟨Try.f71.name, by decide, Try.func71.trans (congrArg some (by kernel_rfl))⟩,
  f19 := Try.func72.trans (congrArg some (by kernel_rfl)),
  f20 := Try.func73.trans (congrArg some (by kernel_rfl)),
  f30 := ⟨Try.f75.name, by decide, Try.func75.trans (congrArg some (by kernel_rfl))⟩,
  f31 := Try.func76.trans (congrArg some (by kernel_rfl)),
  f32 := Try.func77.trans (congrArg some (by kernel_rfl)),
  f33 := ⟨Try.f78.name, by decide, Try.func78.trans (congrArg some (by kernel_rfl))⟩,
  f34 := ⟨Try.f79.name, by decide, Try.func79.trans (congrArg some (by kernel_rfl))⟩,
  f35 := ⟨Try.f62.name, by decide, Try.func62.trans (congrArg some (by kernel_rfl))⟩,
  f40 := ⟨Try.f80.name, by decide, Try.func80.trans (congrArg some (by kernel_rfl))⟩,
  t0 := Try.underlying0,
  a0 := Try.isAgg0,
  z0 := Try.sizeOf0,
  v0 := Try.zeroValue0,
  t3 := Try.underlying3,
  a3 := Try.isAgg3,
  z3 := Try.sizeOf3,
  v3 := Try.zeroValue3,
  t4 := Try.underlying4,
  a4 := Try.isAgg4,
  z4 := Try.sizeOf4,
  v4 := Try.zeroValue4,
  t5 := Try.underlying5,
  a5 := Try.isAgg5,
  z5 := Try.sizeOf5,
  v5 := Try.zeroValue5,
  t9 := Try.underlying9,
  a9 := Try.isAgg9,
  z9 := Try.sizeOf9,
  v9 := Try.zeroValue9,
  t22 := Try.underlying34,
  a22 := Try.isAgg34,
  z22 := Try.sizeOf34,
  v22 := Try.zeroValue34,
  t23 := Try.underlying34,
  a23 := Try.isAgg34,
  z23 := Try.sizeOf34,
  v23 := Try.zeroValue34,
  t25 := Try.underlying3,
  a25 := Try.isAgg3,
  z25 := Try.sizeOf3,
  v25 := Try.zeroValue3,
  t32 := Try.underlying86,
  a32 := Try.isAgg86,
  z32 := Try.sizeOf86,
  v32 := Try.zeroValue86,
  t35 := Try.underlying92,
  a35 := Try.isAgg92,
  z35 := Try.sizeOf92,
  v35 := Try.zeroValue92,
  t36 := Try.underlying93,
  a36 := Try.isAgg93,
  z36 := Try.sizeOf93,
  v36 := Try.zeroValue93,
  t41 := Try.underlying70,
  a41 := Try.isAgg70,
  z41 := Try.sizeOf70,
  v41 := Try.zeroValue70,
  t44 := Try.underlying99,
  a44 := Try.isAgg99,
  z44 := Try.sizeOf99,
  v44 := Try.zeroValue99,
  t46 := Try.underlying27,
  a46 := Try.isAgg27,
  z46 := Try.sizeOf27,
  v46 := Try.zeroValue27,
  t53 := Try.underlying101,
  a53 := Try.isAgg101,
  z53 := Try.sizeOf101,
  v53 := Try.zeroValue101,
  t57 := Try.underlying105,
  a57 := Try.isAgg105,
  z57 := Try.sizeOf105,
  v57 := Try.zeroValue105,
  t63 := Try.underlying107,
  a63 := Try.isAgg107,
  z63 := Try.sizeOf107,
  v63 := Try.zeroValue107,
  t64 := Try.underlying108,
  a64 := Try.isAgg108,
  z64 := Try.sizeOf108,
  v64 := Try.zeroValue108 }

def compI_ren : Go.Shelf.Ren := ⟨fun | 43 => 54 | n => n,
  fun | 22 => 34 | 23 => 3 | 3 => 3 | 4 => 4 | 0 => 0 | n => n,
  fun | n => n⟩
theorem compI : Go.Proofs.SlLaysN.n43 Try.prog compI_ren := {
  mixed := by kernel_rfl,
  f43 := ⟨Try.f54.name, by decide, Try.func54.trans (congrArg some (by kernel_rfl))⟩,
  t0 := Try.underlying0,
  a0 := Try.isAgg0,
  z0 := Try.sizeOf0,
  v0 := Try.zeroValue0,
  t3 := Try.underlying3,
  a3 := Try.isAgg3,
  z3 := Try.sizeOf3,
  v3 := Try.zeroValue3,
  t4 := Try.underlying4,
  a4 := Try.isAgg4,
  z4 := Try.sizeOf4,
  v4 := Try.zeroValue4,
  t22 := Try.underlying34,
  a22 := Try.isAgg34,
  z22 := Try.sizeOf34,
  v22 := Try.zeroValue34,
  t23 := Try.underlying3,
  a23 := Try.isAgg3,
  z23 := Try.sizeOf3,
  v23 := Try.zeroValue3,
  i23 := by kernel_rfl }

/-! ### rows of numbers behind a sort -/
theorem holdsI {w : World} {B g n c : Nat} {L : List Int} (h : Gw encI w B (.slice (some ⟨g, 0, none⟩) n c) L) : Go.Sort.Holds (Value.int .i64) w g 0 L.toArray := by
  obtain ⟨hn, hB, hc, hm, cur, hg, hs, ht⟩ := h.block
  intro j hj
  refine ⟨?_, by simp [World.frozen?, hg]⟩
  have hj' : j < n := by simpa [hn] using hj
  rw [flatI_eq, show encI.k = 1 from rfl, Nat.mul_one] at ht
  have h3 : w.cell? ⟨g, 0 + j, none⟩ = cur[j]? := by simp [World.cell?, hg]
  have h4 : cur[j]? = (L.map (Value.int .i64))[j]? := by
    rw [← ht, List.getElem?_take_of_lt hj', Array.getElem?_toList]
  have hjL : j < L.length := by omega
  rw [h3, h4, List.getElem?_map, List.getElem?_eq_getElem hjL, getElem!_pos _ j hj]
  rfl
theorem putI_gw {w : World} {B g n c : Nat} {L : List Int} (h : Gw encI w B (.slice (some ⟨g, 0, none⟩) n c) L) (hB : B ≤ w.heap.size) (d : List Int) (hd : d.length = n) (k : Nat) (hk : k ≤ n) (m : Nat) (os : Array Obj) :
    Gw encI (Go.Sort.grow (Go.Sort.putRow (Value.int .i64) (Go.Sort.ahead w m) g 0 d.toArray) os) B (.slice (some ⟨g, 0, none⟩) k c) (d.take k) ∧ Below B w (Go.Sort.grow (Go.Sort.putRow (Value.int .i64) (Go.Sort.ahead w m) g 0 d.toArray) os) := by
  obtain ⟨hnl, hBg, hc, hm, cur, hg, hs, ht⟩ := h.block
  have hgl : g < w.heap.size := (Array.getElem?_eq_some_iff.1 hg).1
  constructor
  · have hgw : (Go.Sort.grow (Go.Sort.putRow (Value.int .i64) (Go.Sort.ahead w m) g 0 d.toArray) os).heap[g]? = some (.cells (Go.Sort.putCells (Value.int .i64) 0 d.toArray cur) encI.t (0, 0)) := by
      rw [Go.Sort.heap_grow_old _ _ (by simpa [Go.Sort.putRow, Go.Sort.mapBlock, Go.Sort.ahead] using hgl)]
      simp [Go.Sort.putRow, Go.Sort.mapBlock, Go.Sort.ahead, Array.getElem?_modify, hg, Go.Sort.onCells]
    have hl : (d.take k).length = k := by rw [List.length_take]; omega
    rw [show encI.k = 1 from rfl, Nat.mul_one] at hs
    have := Gw.mk (E := encI) (w := Go.Sort.grow (Go.Sort.putRow (Value.int .i64) (Go.Sort.ahead w m) g 0 d.toArray) os) (B := B) (g := g) (c := c) (L := d.take k) hBg (by rw [hl]; omega) hm hgw (by rw [show encI.k = 1 from rfl, Nat.mul_one]; simpa [Go.Sort.putCells] using hs) (by
      rw [hl, flatI_eq, show encI.k = 1 from rfl, Nat.mul_one]
      apply List.ext_getElem?
      intro j
      by_cases hj : j < k
      · rw [List.getElem?_take_of_lt hj, Array.getElem?_toList, List.getElem?_map, List.getElem?_take_of_lt hj]
        have hjc : j < cur.size := by omega
        have hjd : j < d.length := by omega
        simp [Go.Sort.putCells, hjc, hjd]
      · rw [List.getElem?_take_eq_none (by omega), List.getElem?_eq_none (by rw [List.length_map, hl]; omega)])
    rwa [hl] at this
  · refine (Below.refl _ _).grown (row := some g) ⟨rfl, rfl, rfl, ?_, fun k hk hne => ?_⟩ hB (fun k hk => by injection hk with hk; omega)
    · simp [Go.Sort.grow, Go.Sort.putRow, Go.Sort.mapBlock, Go.Sort.ahead]
    · rw [Go.Sort.heap_grow_old _ _ (by simpa [Go.Sort.putRow, Go.Sort.mapBlock, Go.Sort.ahead] using hk)]
      have : g ≠ k := fun e => hne (by rw [e])
      simp [Go.Sort.putRow, Go.Sort.mapBlock, Go.Sort.ahead, Array.getElem?_modify, this]

/-! ### what Compact leaves of a row that doesn't fall -/
theorem compact_upto {zs : List Int} (hs : zs.Pairwise (· ≤ ·)) : ∀ m, m ≤ zs.length → irises (Lib.compactUpTo zs.toArray m) ∧ (∀ x, x ∈ Lib.compactUpTo zs.toArray m ↔ x ∈ zs.take m) ∧ (Lib.compactUpTo zs.toArray m).length ≤ m
  | 0, _ => ⟨List.Pairwise.nil, fun x => by simp [Lib.compactUpTo], by simp [Lib.compactUpTo]⟩
  | m + 1, hm => by
    obtain ⟨h1, h2, h3⟩ := compact_upto hs m (by omega)
    have hz : zs.toArray[m]! = zs[m]'hm := by rw [getElem!_pos _ m (by simp; omega)]; simp
    have ht : zs.take (m + 1) = zs.take m ++ [zs[m]'hm] := List.take_succ_eq_append_getElem hm
    have hle := (List.pairwise_iff_getElem.1 hs)
    rw [Lib.compactUpTo_succ, hz, ht]
    by_cases h0 : m = 0
    · subst h0
      have hk : Lib.keeps zs.toArray 0 = true := by simp [Lib.keeps]
      rw [if_pos hk]
      have e0 : Lib.compactUpTo zs.toArray 0 = [] := rfl
      rw [e0]
      exact ⟨List.pairwise_singleton _ _, fun x => by simp, by simp⟩
    · have hz1 : zs.toArray[m - 1]! = zs[m - 1]'(by omega) := by rw [getElem!_pos _ (m - 1) (by simp; omega)]; simp
      by_cases he : zs[m]'hm = zs[m - 1]'(by omega)
      · have hk : Lib.keeps zs.toArray m = false := Lib.keeps_neg (by omega) (by rw [hz, hz1]; exact he)
        rw [hk]
        simp only [Bool.false_eq_true, if_false, List.append_nil]
        refine ⟨h1, fun x => ?_, by omega⟩
        rw [h2 x, List.mem_append, List.mem_singleton]
        constructor
        · exact Or.inl
        · rintro (hx | hx)
          · exact hx
          · subst hx
            rw [he]
            exact List.mem_take_iff_getElem.2 ⟨m - 1, by omega, rfl⟩
      · have hk : Lib.keeps zs.toArray m = true := Lib.keeps_pos (by rw [hz, hz1]; exact he)
        rw [if_pos hk]
        refine ⟨?_, fun x => by rw [List.mem_append, List.mem_append, h2 x], by rw [List.length_append]; simp; omega⟩
        unfold irises
        rw [List.pairwise_append]
        refine ⟨h1, List.pairwise_singleton _ _, fun a ha b hb => ?_⟩
        rw [List.mem_singleton] at hb
        subst hb
        obtain ⟨i, hi, rfl⟩ := List.mem_take_iff_getElem.1 ((h2 a).1 ha)
        have hb1 : zs[i]'(by omega) ≤ zs[m - 1]'(by omega) := by
          by_cases hi1 : i = m - 1
          · subst hi1; exact Int.le_refl _
          · exact hle i (m - 1) (by omega) (by omega) (by omega)
        have hb2 : zs[m - 1]'(by omega) ≤ zs[m]'hm := hle (m - 1) m (by omega) hm (by omega)
        omega
theorem compact_of {zs : List Int} (hs : zs.Pairwise (· ≤ ·)) : irises (Lib.compact zs) ∧ (∀ x, x ∈ Lib.compact zs ↔ x ∈ zs) ∧ (Lib.compact zs).length ≤ zs.length := by
  obtain ⟨h1, h2, h3⟩ := compact_upto hs zs.length (Nat.le_refl _)
  exact ⟨h1, fun x => by unfold Lib.compact; rw [h2, List.take_length], h3⟩

set_option maxRecDepth 100000 in
theorem sortI_any (B n c : Nat) (p : Option Addr) (L : List Int) (w : World) (h : Gw encI w B (.slice p n c) L) (hB : B ≤ w.heap.size) (hn : n ≤ 4194304) :
    Calls Try.prog 53 #[.slice p n c] w fun e w' => e = .returned (.tuple #[]) ∧ ∃ L', Gw encI w' B (.slice p n c) L' ∧ L'.Pairwise (· ≤ ·) ∧ (∀ x, x ∈ L' ↔ x ∈ L) ∧ Below B w w' := by
  have hlen := h.len
  cases p with
  | none =>
    obtain rfl := h.nilN
    obtain rfl : L = [] := List.length_eq_zero_iff.1 hlen
    have hcon := AnyM.slices_Sort_int_none sortI none c w
    change Calls Try.prog 53 _ _ _ at hcon
    refine hcon.mono ?_
    rintro e w' ⟨rfl, rfl⟩
    exact ⟨rfl, [], h, List.Pairwise.nil, fun _ => Iff.rfl, Below.refl _ _⟩
  | some ad =>
    obtain ⟨g, rfl⟩ := h.atG
    obtain ⟨hnl, hBg, hc, hm, cur, hg, hs, ht⟩ := h.block
    have hcon := Go.calls_of_every_depth fun D => AnySM.slices_Sort_int_in sortI D g 0 c L w (holdsI h) (Array.getElem?_eq_some_iff.1 hg).1 (by omega)
    change Calls Try.prog 53 _ _ _ at hcon
    rw [hlen] at hcon
    refine hcon.mono ?_
    rintro e w' ⟨rfl, m, os, rfl⟩
    have hp := List.mergeSort_perm L (fun x y => decide (x ≤ y))
    have hl : (L.mergeSort fun x y => decide (x ≤ y)).length = n := by rw [hp.length_eq, hlen]
    obtain ⟨h1, h2⟩ := putI_gw h hB _ hl n (Nat.le_refl _) m os
    rw [List.take_of_length_le (by omega)] at h1
    refine ⟨rfl, _, h1, ?_, fun x => hp.mem_iff, h2⟩
    refine (List.pairwise_mergeSort (fun a b c h1 h2 => ?_) (fun a b => ?_) L).imp (fun h => of_decide_eq_true h)
    · simp only [decide_eq_true_eq] at *; omega
    · simp only [Bool.or_eq_true, decide_eq_true_eq]; omega
set_option maxRecDepth 100000 in
theorem compI_any (B n c : Nat) (p : Option Addr) (L : List Int) (w : World) (h : Gw encI w B (.slice p n c) L) (hB : B ≤ w.heap.size) (hn : n ≤ 4194304) (hs : L.Pairwise (· ≤ ·)) :
    Calls Try.prog 54 #[.slice p n c] w fun e w' => ∃ k L', e = .returned (.slice p k c) ∧ Gw encI w' B (.slice p k c) L' ∧ irises L' ∧ (∀ x, x ∈ L' ↔ x ∈ L) ∧ Below B w w' := by
  have hlen := h.len
  cases p with
  | none =>
    obtain rfl := h.nilN
    obtain rfl : L = [] := List.length_eq_zero_iff.1 hlen
    have hcon := AnyG.slices_Compact_int_empty compI none c w
    change Calls Try.prog 54 _ _ _ at hcon
    refine hcon.mono ?_
    rintro e w' ⟨rfl, rfl⟩
    exact ⟨0, [], rfl, h, List.Pairwise.nil, fun _ => Iff.rfl, Below.refl _ _⟩
  | some ad =>
    obtain ⟨g, rfl⟩ := h.atG
    obtain ⟨hnl, hBg, hc, hm, cur, hg, hss, ht⟩ := h.block
    have hcon := AnyG.slices_Compact_int compI g 0 c L w (holdsI h) (by omega) (by omega)
    change Calls Try.prog 54 _ _ _ at hcon
    rw [hlen] at hcon
    refine hcon.mono ?_
    rintro e w' ⟨rfl, m, rfl⟩
    obtain ⟨c1, c2, c3⟩ := compact_of hs
    generalize Lib.compact L = C at *
    have hl : (C ++ List.replicate (n - C.length) 0).length = n := by rw [List.length_append, List.length_replicate]; omega
    obtain ⟨h1, h2⟩ := putI_gw h hB _ hl C.length (by omega) m #[]
    rw [Go.Sort.grow_empty] at h1 h2
    rw [List.take_left' rfl] at h1
    exact ⟨_, C, rfl, h1, c1, c2, h2⟩
end Go.Proofs.Ytieednadbcghjaa
