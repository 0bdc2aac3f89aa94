/- Layer 19, the program: slices.BinarySearch, slices.Insert at rows of the call's own; with, both -/
import Derived.Test.YtpfbfhigelbfcaaGreatSd7
import Derived.Test.YtpfbfhigelbfcaaGreatSd38
set_option linter.unusedSimpArgs false
set_option linter.unusedVariables false
namespace Go.Proofs.YtpfbfhigelbfcaaGreat
open Go.RowKit Go.Lib Go.Shelf
theorem putIR_true (n : Int) : ∀ l, putIR n l true = l
 | [] => rfl
 | y :: l => by simp [putIR, putIR_true n l]
theorem ins_at (x : Int) : ∀ (L : List Int), irises L → x ∉ L → L.take (L.countP (· < x)) ++ [x] ++ L.drop (L.countP (· < x)) = putIR x L false
 | [], _, _ => rfl
 | y :: l, h, hx => by
   obtain ⟨h1, h2⟩ := List.pairwise_cons.1 h
   have hxy : x ≠ y := fun e => hx (by rw [e]; exact List.mem_cons_self)
   have hxl : x ∉ l := fun e => hx (List.mem_cons_of_mem _ e)
   by_cases hlt : y < x
   ·have ih := ins_at x l h2 hxl
    rw [List.countP_cons_of_pos (by simpa using hlt), List.take_succ_cons, List.drop_succ_cons]
    have h3 : ¬ x ≤ y := by omega
    simp only [putIR, h3, false_and, and_false, if_false, decide_false, Bool.or_false, List.nil_append, List.cons_append]
    rw [← ih]
   ·have h0 : (y :: l).countP (· < x) = 0 := List.countP_eq_zero.2 fun z hz => by
     rcases List.mem_cons.1 hz with rfl | hz
     ·simpa using hlt
     ·have := h1 z hz
      simp; omega
    have h3 : x ≤ y := by omega
    have h4 : x < y := by omega
    rw [h0]
    simp [putIR, h3, h4, putIR_true]
theorem putI_has {L : List Int} {x : Int} (h : irises L) (hx : x ∈ L) : putI L x = L :=
 irises_ext (putI_rises h x) h fun y => by
  rw [mem_putI]
  exact ⟨fun h => h.elim (fun e => by rw [e]; exact hx) id, Or.inr⟩
theorem zeroI (n : Nat) : (Builtin.zeroCells (Value.int .i64 0).cells n).toList = List.replicate n (Value.int .i64 0) := by
 refine List.eq_replicate_iff.2 ⟨by rw [Array.length_toList, size_zeroCells]; exact Nat.mul_one n, fun v hv => ?_⟩
 simp only [Builtin.zeroCells, Value.cells] at hv
 simp [Nat.mod_one] at hv
 exact hv.2.symm
/-- a row of the call's own, by the cells of its block -/
theorem gwI_mk {w : World} {B g c : Nat} {L : List Int} {cur : Array Value} (hB : B ≤ g) (hm : c ≤ maxLen) (hg : w.heap[g]? = some (.cells cur 3 (0, 0))) (hs : cur.size = c) (t : List Value) (ht : cur.toList = L.map (Value.int .i64) ++ t) {n : Nat} (hn : L.length = n) : Gw encI w B (.slice (some ⟨g, 0, none⟩) n c) L := by
 subst hn
 have hl : cur.size = L.length + t.length := by rw [← Array.length_toList, ht, List.length_append, List.length_map]
 refine Gw.mk hB (by omega) hm hg (by rw [show encI.k = 1 from rfl, Nat.mul_one]; exact hs) ?_
 rw [show encI.k = 1 from rfl, Nat.mul_one, flatI_eq, ht, List.take_append_of_le_length (by rw [List.length_map]; exact Nat.le_refl _), List.take_of_length_le (by rw [List.length_map]; exact Nat.le_refl _)]
set_option maxRecDepth 100000 in
theorem seaI_any (B n c : Nat) (p : Option Addr) (L : List Int) (x : Int) (w : World) (h : Gw encI w B (.slice p n c) L) (hs : L.Pairwise (· ≤ ·)) (hn : n ≤ 2097200) :
 Calls Tryz.prog 138 #[.slice p n c, .int .i64 x] w fun e w' => e = .returned (.tuple #[.int .i64 (L.countP (· < x) : Nat), .bool (decide (x ∈ L))]) ∧ ∃ q, w' = w.drewN q := by
 have hlen := h.len
 cases p with
 | none =>
   obtain rfl := h.nilN
   obtain rfl : L = [] := List.length_eq_zero_iff.1 hlen
   clear h hs
   go_enter Tryz.func138, Tryz.ntmps138
   go_wp2
   go_loopw [7, 8] (fun i j wr => i = .int .i64 0 ∧ j = .int .i64 0 ∧ wr = w) (fun _ _ _ => 0)
   case atStart => exact ⟨rfl, rfl, rfl⟩
   case round =>
    obtain ⟨rfl, rfl, rfl⟩ := hrel
    go_wp2
    go_ret2
    first | exact ⟨rfl, 0, rfl⟩ | exact ⟨rfl, 1, rfl⟩ | exact ⟨rfl, _, rfl⟩
 | some ad =>
   obtain ⟨g, rfl⟩ := h.atG
   have ht : L.take n = L := List.take_of_length_le (by omega)
   have hcon := AnyG.slices_BinarySearch_int seaI g 0 n c L x w (by omega) (by omega) (fun j hj => by
    obtain ⟨b, off, hp, h1⟩ := h.gs.it j (by omega)
    simp only [Option.some.injEq, Addr.mk.injEq, and_true] at hp
    obtain ⟨rfl, rfl⟩ := hp
    exact h1) (by rw [ht]; exact hs)
   change Calls Tryz.prog 138 _ _ _ at hcon
   rw [ht] at hcon
   refine hcon.mono ?_
   rintro e w' ⟨rfl, q, rfl⟩
   exact ⟨by rw [List.contains_eq_mem], q, rfl⟩
set_option maxRecDepth 100000 in
theorem insI_any (B n c k vb : Nat) (p : Option Addr) (L : List Int) (x : Int) (w : World) (h : Gw encI w B (.slice p n c) L) (hB : B ≤ w.heap.size) (hv : w.heap[vb]? = some (.cells #[.int .i64 x] 3 (0, 0))) (hne : p ≠ some ⟨vb, 0, none⟩) (hk : k ≤ n) (hn : n ≤ 2097200) :
 Calls Tryz.prog 139 #[.slice p n c, .int .i64 (k : Int), .slice (some ⟨vb, 0, none⟩) 1 1] w fun e w' => ∃ v, e = .returned v ∧ Gw encI w' B v (L.take k ++ [x] ++ L.drop k) ∧ Below B w w' := by
 have hlen := h.len
 have hvs : ∀ j v, ([Value.int .i64 x])[j]? = some v → w.cell? ⟨vb, 0 + j, none⟩ = some v := fun j v hj => by
  rw [Nat.zero_add]; simpa [World.cell?, hv] using hj
 have h1v : ∀ v ∈ [Value.int .i64 x], v.oneCell' = true := by simp [Value.oneCell']
 have h1c : ∀ v ∈ L.map (Value.int .i64), v.oneCell' = true := by simp [Value.oneCell']
 have hcl : (L.map (Value.int .i64)).length = n := by rw [List.length_map]; exact hlen
 have hLl : (L.take k ++ [x] ++ L.drop k).length = n + 1 := by simp; omega
 have hLm : (L.take k ++ [x] ++ L.drop k).map (Value.int .i64) = (L.map (Value.int .i64)).take k ++ [Value.int .i64 x] ++ (L.map (Value.int .i64)).drop k := by simp
 obtain ⟨p1, c1, hv1, hnc, hcm, _, hpn⟩ := h.open
 simp only [Value.slice.injEq] at hv1
 obtain ⟨rfl, rfl, rfl⟩ := hv1
 have hbd : ∀ (W : World) (X : Nat), L.length + 1 ≤ grownCap W (L.length + 1) X 3 ∧ grownCap W (L.length + 1) X 3 ≤ maxLen := fun W X => ⟨grownCap_ge _ _ _ _, grownCap_le_maxLen _ _ _ _ (by unfold maxLen; omega)⟩
 have hz1 : (Value.int .i64 0).cells.size = 1 := rfl
 by_cases hroom : c < L.length + 1
 ·by_cases hkn : k = L.length
  ·subst hkn
   have hcon := Any2.slices_Insert_int_end_grow insI p L.length c vb 0 1 1 (L.map (Value.int .i64)) [.int .i64 x] w (by decide) hnc hroom (by omega) hcl rfl (fun e => by have := hpn e; omega) (fun a ha j v hj => by
    subst ha
    obtain ⟨g, rfl⟩ := h.atG
    rw [List.getElem?_map] at hj
    obtain ⟨y, hy, rfl⟩ := Option.map_eq_some_iff.1 hj
    obtain ⟨b, off, hp, h1⟩ := h.gs.it j (List.getElem?_eq_some_iff.1 hy).1
    simp only [Option.some.injEq, Addr.mk.injEq, and_true] at hp
    obtain ⟨rfl, rfl⟩ := hp
    rw [Addr.add_lit, h1, List.getD_eq_getElem?_getD, hy]
    rfl) hvs h1v
   change Calls Tryz.prog 139 _ _ _ at hcon
   refine hcon.mono ?_
   rintro e w' ⟨rfl, rfl⟩
   obtain ⟨b1, b2⟩ := hbd w c
   refine ⟨_, rfl, gwI_mk hB b2 (heap_alloc_new w.drew _) ?_ (Builtin.zeroCells (Value.int .i64 0).cells (grownCap w (L.length + 1) c 3 - (L.length + 1))).toList ?_ hLl, ?_⟩
   ·rw [Array.size_append, size_zeroCells, hz1]
    simp
    exact Nat.add_sub_cancel' b1
   ·rw [hLm, List.take_of_length_le (by omega), List.drop_of_length_le (by omega), List.append_nil, Array.toList_append]; rfl
   ·exact ((Below.refl _ _).drew).alloc (by exact hB) _
  ·have hlt : k < L.length := by omega
   cases p with
   | none => have := hpn rfl; omega
   | some ad =>
     obtain ⟨g, rfl⟩ := h.atG
     have hcon := Any2.slices_Insert_int_grow insI g 0 L.length c k vb 0 1 1 (L.map (Value.int .i64)) [.int .i64 x] w hlt (by decide) hnc hroom (by omega) hcl rfl (fun j v hj => by
      rw [List.getElem?_map] at hj
      obtain ⟨y, hy, rfl⟩ := Option.map_eq_some_iff.1 hj
      obtain ⟨b, off, hp, h1⟩ := h.gs.it j (List.getElem?_eq_some_iff.1 hy).1
      simp only [Option.some.injEq, Addr.mk.injEq, and_true] at hp
      obtain ⟨rfl, rfl⟩ := hp
      rw [h1, List.getD_eq_getElem?_getD, hy]
      rfl) hvs h1c h1v
     change Calls Tryz.prog 139 _ _ _ at hcon
     refine hcon.mono ?_
     rintro e w' ⟨rfl, rfl⟩
     obtain ⟨b1, b2⟩ := hbd w c
     have hG : grownCap w (L.length + 1) c (insI_ren.t 3) = grownCap w (L.length + 1) c 3 := rfl
     rw [hG]
     obtain ⟨G, hGG⟩ : ∃ G, grownCap w (L.length + 1) c 3 = G := ⟨_, rfl⟩
     rw [hGG] at b1 b2 ⊢
     have e0 : ((L.map (Value.int .i64)).take k).toArray ++ Builtin.zeroCells (Value.int .i64 0).cells (L.length + 1 - k) ++ Builtin.zeroCells (Value.int .i64 0).cells (G - (L.length + 1)) = ((L.map (Value.int .i64)).take k ++ (List.replicate 1 (Value.int .i64 0) ++ (List.replicate (L.length - k) (Value.int .i64 0) ++ List.replicate (G - (L.length + 1)) (Value.int .i64 0)))).toArray := by
      apply Array.toList_inj.1
      rw [← List.append_assoc (List.replicate 1 _), List.replicate_append_replicate, show 1 + (L.length - k) = L.length + 1 - k by omega, Array.toList_append, Array.toList_append, zeroI, zeroI]
      simp
     rw [e0]
     have hk0 : ((L.map (Value.int .i64)).take k).length = k := by rw [List.length_take, hcl]; omega
     obtain ⟨w0, hw0⟩ : ∃ W, w.alloc (.cells ((L.map (Value.int .i64)).take k ++ (List.replicate 1 (Value.int .i64 0) ++ (List.replicate (L.length - k) (Value.int .i64 0) ++ List.replicate (G - (L.length + 1)) (Value.int .i64 0)))).toArray 3) = W := ⟨_, rfl⟩
     have g0 : w0.heap[w.heap.size]? = some (.cells ((L.map (Value.int .i64)).take k ++ (List.replicate 1 (Value.int .i64 0) ++ (List.replicate (L.length - k) (Value.int .i64 0) ++ List.replicate (G - (L.length + 1)) (Value.int .i64 0)))).toArray 3 (0, 0)) := by rw [← hw0]; exact heap_alloc_new w _
     have hbel : Below B w w0 := by rw [← hw0]; exact (Below.refl _ _).alloc hB _
     rw [show w.alloc (.cells ((L.map (Value.int .i64)).take k ++ (List.replicate 1 (Value.int .i64 0) ++ (List.replicate (L.length - k) (Value.int .i64 0) ++ List.replicate (G - (L.length + 1)) (Value.int .i64 0)))).toArray (insI_ren.t 3)) = w0 from hw0]
     clear hw0
     have g1 := setCells_row w.heap.size 3 (List.replicate (L.length - k) (Value.int .i64 0) ++ List.replicate (G - (L.length + 1)) (Value.int .i64 0)) [.int .i64 x] ((L.map (Value.int .i64)).take k) (List.replicate 1 (Value.int .i64 0)) w0.drew g0 rfl
     rw [hk0] at g1
     have g2 := setCells_row w.heap.size 3 (List.replicate (G - (L.length + 1)) (Value.int .i64 0)) ((L.map (Value.int .i64)).drop k) ((L.map (Value.int .i64)).take k ++ [.int .i64 x]) (List.replicate (L.length - k) (Value.int .i64 0)) (w0.drew.setCells w.heap.size k [.int .i64 x]).drew (by rw [List.append_assoc]; exact g1) (by rw [List.length_replicate, List.length_drop, hcl])
     rw [List.length_append, hk0, List.length_singleton] at g2
     refine ⟨_, rfl, gwI_mk hB b2 g2 ?_ (List.replicate (G - (L.length + 1)) (Value.int .i64 0)) ?_ hLl, ?_⟩
     ·simp
      omega
     ·rw [hLm]; simp
     ·exact below_setCells hB _ _ _ ((below_setCells hB _ _ _ hbel.drew).drew)
 ·cases p with
  | none => have := hpn rfl; omega
  | some ad =>
    obtain ⟨g, rfl⟩ := h.atG
    obtain ⟨_, hBg, _, hm, cur, hg, hs, ht⟩ := h.block
    rw [show encI.k = 1 from rfl, Nat.mul_one] at hs ht
    rw [flatI_eq] at ht
    have hgv : vb ≠ g := fun e => hne (by rw [e])
    obtain ⟨T, hT⟩ : ∃ T, cur.toList.drop L.length = T := ⟨_, rfl⟩
    have hcur : cur.toList = L.map (Value.int .i64) ++ T := by rw [← ht, ← hT, List.take_append_drop]
    have hTl : T.length = c - L.length := by rw [← hT, List.length_drop, Array.length_toList, hs]
    obtain ⟨t0, T', rfl⟩ : ∃ t0 T', T = t0 :: T' := by
     cases T with
     | nil => simp at hTl; omega
     | cons a b => exact ⟨a, b, rfl⟩
    have hsz : ∀ j, j < L.length + 1 → (w.cell? ⟨g, 0 + j, none⟩).isSome = true := fun j hj => by
     rw [Nat.zero_add]
     simp only [World.cell?, hg]
     simp
     omega
    have hfz : ∀ j, w.frozen? ⟨g, j, none⟩ = false := fun j => by simp [World.frozen?, hg]
    have hcc : cur = (L.map (Value.int .i64) ++ t0 :: T').toArray := by rw [← hcur]
    rw [hcc] at hg hs
    by_cases hkn : k = L.length
    ·subst hkn
     have hcon := Any2.slices_Insert_int_end_room insI g 0 L.length c vb 0 1 1 [.int .i64 x] w (by decide) (by omega) (by unfold maxLen at hm; omega) rfl (fun j hj => by
      obtain rfl : j = 0 := by omega
      rw [Nat.add_zero]
      exact hsz _ (by omega)) (fun j hj => hfz _) hvs h1v
     change Calls Tryz.prog 139 _ _ _ at hcon
     refine hcon.mono ?_
     rintro e w' ⟨rfl, rfl⟩
     have g1 := setCells_row g 3 T' [.int .i64 x] (L.map (Value.int .i64)) [t0] w hg rfl
     rw [hcl] at g1
     rw [Nat.zero_add]
     refine ⟨_, rfl, gwI_mk hBg hm g1 ?_ T' ?_ hLl, ?_⟩
     ·simp at hs ⊢
      omega
     ·rw [hLm, List.take_of_length_le (by omega), List.drop_of_length_le (by omega)]; simp
     ·exact below_setCells hBg _ _ _ (Below.refl _ _)
    ·have hlt : k < L.length := by omega
     have hcon := Any2.slices_Insert_int_shift insI g 0 L.length c k vb 0 1 1 (L.map (Value.int .i64)) [.int .i64 x] w hlt (by decide) (by omega) (by unfold maxLen at hm; omega) hgv hcl rfl (fun j v hj => by
      rw [List.getElem?_map] at hj
      obtain ⟨y, hy, rfl⟩ := Option.map_eq_some_iff.1 hj
      obtain ⟨b, off, hp, h1⟩ := h.gs.it j (List.getElem?_eq_some_iff.1 hy).1
      simp only [Option.some.injEq, Addr.mk.injEq, and_true] at hp
      obtain ⟨rfl, rfl⟩ := hp
      rw [h1, List.getD_eq_getElem?_getD, hy]
      rfl) hsz (fun j _ => hfz _) hvs h1c h1v 3 3 1 c (by simp [World.shape?, hv]) (by simp only [World.shape?, hg]; rw [hs]; rfl) (by omega) (by simp [World.frozen?, hv]) (by simp [World.frozen?, hv])
     change Calls Tryz.prog 139 _ _ _ at hcon
     refine hcon.mono ?_
     rintro e w' ⟨rfl, rfl⟩
     have hk0 : ((L.map (Value.int .i64)).take k).length = k := by rw [List.length_take, hcl]; omega
     obtain ⟨y, hy⟩ : ∃ y, (L.map (Value.int .i64))[k]? = some y := ⟨_, List.getElem?_eq_getElem (by rw [hcl]; exact hlt)⟩
     obtain ⟨T2, hT2, hT3⟩ : ∃ T2, (L.map (Value.int .i64)).drop (k + 1) ++ [t0] = T2 ∧ T2.length = ((L.map (Value.int .i64)).drop k).length := ⟨_, rfl, by simp; omega⟩
     have hsp : L.map (Value.int .i64) ++ t0 :: T' = ((L.map (Value.int .i64)).take k ++ [y]) ++ (T2 ++ T') := by
      have h1 : L.map (Value.int .i64) = (L.map (Value.int .i64)).take k ++ ([y] ++ (L.map (Value.int .i64)).drop (k + 1)) := by
       conv => lhs; rw [← List.take_append_drop k (L.map (Value.int .i64))]
       rw [List.drop_eq_getElem_cons (by rw [hcl]; exact hlt)]
       have := (List.getElem?_eq_some_iff.1 hy).2
       rw [this]
       rfl
      rw [← hT2]
      conv => lhs; rw [h1]
      simp
     have g1 := setCells_row g 3 T' ((L.map (Value.int .i64)).drop k) ((L.map (Value.int .i64)).take k ++ [y]) T2 w.drew (by rw [← hsp]; exact hg) hT3
     rw [List.length_append, hk0, List.length_singleton] at g1
     have g2 := setCells_row g 3 ((L.map (Value.int .i64)).drop k ++ T') [.int .i64 x] ((L.map (Value.int .i64)).take k) [y] (w.drew.setCells g (k + 1) ((L.map (Value.int .i64)).drop k)) (by rw [← List.append_assoc]; exact g1) rfl
     rw [hk0] at g2
     rw [Nat.zero_add, Nat.zero_add]
     refine ⟨_, rfl, gwI_mk hBg hm g2 ?_ T' ?_ hLl, ?_⟩
     ·simp at hs ⊢
      omega
     ·rw [hLm]; simp
     ·exact below_setCells hBg _ _ _ (below_setCells hBg _ _ _ (Below.refl _ _).drew)
end Go.Proofs.YtpfbfhigelbfcaaGreat

