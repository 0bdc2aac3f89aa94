/- Layer 11: strings.Compare; slices.SortFunc, laid at rows of names. -/
import Derived.Test.YtebkpjnnmlccmaaFolE
import Derived.Shelf.SlSortCmp.NoneTotal
import Derived.Lib.Bytealg
namespace Go.Proofs.Ytebkpjnnmlccmaa
set_option linter.unusedVariables false
open Go.RowKit Go.Lib Go.Shelf

def sortN_ren : Go.Shelf.Ren := ⟨fun | 6 => 35 | 15 => 39 | 14 => 43 | 28 => 54 | 29 => 55 | 20 => 56 | 21 => 57 | 22 => 58 | 23 => 59 | 24 => 60 | 25 => 61 | 26 => 62 | 27 => 63 | 46 => 71 | 47 => 66 | 48 => 67 | 49 => 72 | 50 => 73 | 57 => 75 | n => n,
  fun | 22 => 22 | 24 => 48 | 25 => 65 | 3 => 3 | 39 => 68 | 0 => 0 | 53 => 81 | 55 => 83 | 4 => 4 | 46 => 74 | 45 => 73 | 50 => 33 | 5 => 5 | 9 => 9 | 66 => 89 | 70 => 93 | 76 => 98 | 77 => 99 | n => n,
  fun | n => n⟩
theorem sortN : Go.Proofs.SlLaysF0.n6 Try.prog sortN_ren := {
  mixed := by kernel_rfl,
  f6 := ⟨Try.f35.name, by decide, Try.func35.trans (congrArg some (by kernel_rfl))⟩,
  f14 := ⟨Try.f43.name, by decide, Try.func43.trans (congrArg some (by kernel_rfl))⟩,
  f15 := Try.func39.trans (congrArg some (by kernel_rfl)),
  f20 := ⟨Try.f56.name, by decide, Try.func56.trans (congrArg some (by kernel_rfl))⟩,
  f21 := ⟨Try.f57.name, by decide, Try.func57.trans (congrArg some (by kernel_rfl))⟩,
  f22 := ⟨Try.f58.name, by decide, Try.func58.trans (congrArg some (by kernel_rfl))⟩,
  f23 := ⟨Try.f59.name, by decide, Try.func59.trans (congrArg some (by kernel_rfl))⟩,
  f24 := ⟨Try.f60.name, by decide, Try.func60.trans (congrArg some (by kernel_rfl))⟩,
  f25 := ⟨Try.f61.name, by decide, Try.func61.trans (congrArg some (by kernel_rfl))⟩,
  f26 := ⟨Try.f62.name, by decide, Try.func62.trans (congrArg some (by kernel_rfl))⟩,
  f27 := ⟨Try.f63.name, by decide, Try.func63.trans (congrArg some (by kernel_rfl))⟩,
  f28 := Try.func54.trans (congrArg some (by kernel_rfl)),
  f29 := Try.func55.trans (congrArg some (by kernel_rfl)),
  f46 := ⟨Try.f71.name, by decide, Try.func71.trans (congrArg some (by kernel_rfl))⟩,
  f47 := Try.func66.trans (congrArg some (by kernel_rfl)),
  f48 := Try.func67.trans (congrArg some (by kernel_rfl)),
  f49 := ⟨Try.f72.name, by decide, Try.func72.trans (congrArg some (by kernel_rfl))⟩,
  f50 := ⟨Try.f73.name, by decide, Try.func73.trans (congrArg some (by kernel_rfl))⟩,
  f57 := ⟨Try.f75.name, by decide, Try.func75.trans (congrArg some (by kernel_rfl))⟩,
  t0 := Try.underlying0,
  a0 := Try.isAgg0,
  z0 := Try.sizeOf0,
  v0 := Try.zeroValue0,
  t3 := Try.underlying3,
  a3 := Try.isAgg3,
  z3 := Try.sizeOf3,
  v3 := Try.zeroValue3,
  t4 := Try.underlying4,
  a4 := Try.isAgg4,
  z4 := Try.sizeOf4,
  v4 := Try.zeroValue4,
  t5 := Try.underlying5,
  a5 := Try.isAgg5,
  z5 := Try.sizeOf5,
  v5 := Try.zeroValue5,
  t9 := Try.underlying9,
  a9 := Try.isAgg9,
  z9 := Try.sizeOf9,
  v9 := Try.zeroValue9,
  t22 := Try.underlying22,
  a22 := Try.isAgg22,
  z22 := Try.sizeOf22,
  v22 := Try.zeroValue22,
  t25 := Try.underlying65,
  a25 := Try.isAgg65,
  z25 := Try.sizeOf65,
  v25 := Try.zeroValue65,
  t39 := Try.underlying68,
  a39 := Try.isAgg68,
  z39 := Try.sizeOf68,
  v39 := Try.zeroValue68,
  t45 := Try.underlying73,
  a45 := Try.isAgg73,
  z45 := Try.sizeOf73,
  v45 := Try.zeroValue73,
  t46 := Try.underlying74,
  a46 := Try.isAgg74,
  z46 := Try.sizeOf74,
  v46 := Try.zeroValue74,
  t50 := Try.underlying33,
  a50 := Try.isAgg33,
  z50 := Try.sizeOf33,
  v50 := Try.zeroValue33,
  t53 := Try.underlying81,
  a53 := Try.isAgg81,
  z53 := Try.sizeOf81,
  v53 := Try.zeroValue81,
  t55 := Try.underlying83,
  a55 := Try.isAgg83,
  z55 := Try.sizeOf83,
  v55 := Try.zeroValue83,
  t66 := Try.underlying89,
  a66 := Try.isAgg89,
  z66 := Try.sizeOf89,
  v66 := Try.zeroValue89,
  t70 := Try.underlying93,
  a70 := Try.isAgg93,
  z70 := Try.sizeOf93,
  v70 := Try.zeroValue93,
  t76 := Try.underlying98,
  a76 := Try.isAgg98,
  z76 := Try.sizeOf98,
  v76 := Try.zeroValue98,
  t77 := Try.underlying99,
  a77 := Try.isAgg99,
  z77 := Try.sizeOf99,
  v77 := Try.zeroValue99 }

theorem cmpb_neg : ∀ (a b : List UInt8), Lib.compareBytes a b < 0 ↔ a < b
  | [], [] => by simp [Lib.compareBytes]
  | [], _ :: _ => by simp [Lib.compareBytes]
  | _ :: _, [] => by simp [Lib.compareBytes]
  | a :: x, b :: y => by
    rw [Lib.compareBytes, List.cons_lt_cons_iff]
    by_cases h1 : a < b
    · simp [h1]
    · rw [if_neg h1]
      by_cases h2 : b < a
      · have : a ≠ b := fun e => by subst e; exact h1 h2
        simp [h2, h1, this]
      · have : a = b := by
          rcases Nat.lt_trichotomy a.toNat b.toNat with h | h | h
          · exact absurd (UInt8.lt_iff_toNat_lt.2 h) h1
          · exact UInt8.toNat_inj.1 h
          · exact absurd (UInt8.lt_iff_toNat_lt.2 h) h2
        rw [if_neg h2, cmpb_neg x y]
        simp [this]
set_option maxRecDepth 100000 in
set_option maxHeartbeats 1000000 in
theorem cmpstr_any (a b : ByteArray) (w : World) : Calls Try.prog 44 #[.string a, .string b] w fun e w' => e = .returned (.int .i64 (Lib.compareBytes a.data.toList b.data.toList)) ∧ w' = w := by
  go_enter Try.func44, Try.ntmps44
  go_wp2
  rw [run_callFunc_extern Try.func64 (by kernel_rfl) (by kernel_rfl) (by kernel_rfl) (e := Extern.BytealgCompare.compare) (by kernel_rfl), Lib.run_compareString]
  simp only [Result.andThen]
  rw [Oper.upon_value]
  go_wp2
  go_ret
  exact ⟨rfl, rfl⟩
set_option maxRecDepth 100000 in
theorem scmp_any (a b : ByteArray) (w : World) : Calls Try.prog 37 #[.string a, .string b] w fun e w' => e = .returned (.int .i64 (Lib.compareBytes a.data.toList b.data.toList)) ∧ w' = w := by
  go_enter Try.func37, Try.ntmps37
  go_wp2_with fail
  refine (cmpstr_any a b w).mono ?_
  rintro e w2 ⟨rfl, rfl⟩
  go_wp2
  go_ret
  exact ⟨rfl, rfl⟩

instance : Inhabited Nd := ⟨nd0⟩
def cfN (x y : Nd) : Int := Lib.compareBytes x.s.data.toList y.s.data.toList
theorem ltN (x y : Nd) : ltOf cfN x y = true ↔ slt x.s y.s := by
  unfold ltOf cfN slt
  rw [decide_eq_true_iff, cmpb_neg, bytes_toList, bytes_toList]
theorem ltN_f (x y : Nd) : ltOf cfN x y = false ↔ ¬ slt x.s y.s := by
  rw [← ltN]; simp
theorem swoN : Go.Sort.SWO (ltOf cfN) where
  irrefl x := (ltN_f _ _).2 (slt_irrefl _)
  trans x y z h1 h2 := (ltN _ _).2 (slt_trans ((ltN _ _).1 h1) ((ltN _ _).1 h2))
  ntrans x y z h1 h2 := by
    rw [ltN_f] at *
    intro h
    by_cases e : x.s = y.s
    · rw [e] at h; exact h2 h
    · exact h2 (slt_trans (slt_total h1 e) h)
set_option maxRecDepth 100000 in
theorem closN (a b : Nd) (w : World) : Calls Try.prog 36 #[.agg #[.string a.s, .int .i64 a.id], .agg #[.string b.s, .int .i64 b.id]] w fun e w' => e = .returned (.int .i64 (cfN a b)) ∧ ∃ q os', w' = Go.Sort.grow (w.drewN q) os' := by
  obtain ⟨aa, ai⟩ := a
  obtain ⟨bb, bi⟩ := b
  have HC := Lib.hid (scmp_any aa bb)
  unfold cfN
  dsimp only
  generalize Lib.compareBytes aa.data.toList bb.data.toList = c at *
  obtain ⟨w1, hw1⟩ : ∃ W, (w.alloc (.cells #[.string aa, .int .i64 ai] 48)).alloc (.cells #[.string bb, .int .i64 bi] 48) = W := ⟨_, rfl⟩
  have HQ : Hid (∃ q os', w1 = Go.Sort.grow (w.drewN q) os') := Lib.hid ⟨0, #[.cells #[.string aa, .int .i64 ai] 48] ++ #[.cells #[.string bb, .int .i64 bi] 48], by rw [← hw1, ← Go.Sort.grow_grow]; rfl⟩
  have e0 : w1.heap[w.heap.size]? = some (.cells #[.string aa, .int .i64 ai] 48 (0, 0)) := by
    rw [← hw1]
    exact (heap_alloc_old _ _ (by simp)).trans (heap_alloc_new _ _)
  have e1 : w1.heap[w.heap.size + 1]? = some (.cells #[.string bb, .int .i64 bi] 48 (0, 0)) := by rw [← hw1]; exact two_new _ _ _
  have g0 : w1.cell? ⟨w.heap.size, 0, none⟩ = some (.string aa) := by rw [cell_of_row _ _ _ _ _ _ e0]; rfl
  have g1 : w1.cell? ⟨w.heap.size + 1, 0, none⟩ = some (.string bb) := by rw [cell_of_row _ _ _ _ _ _ e1]; rfl
  clear e0 e1
  go_enter Try.func36, Try.ntmps36
  go_wp2_with fail
  refine (HC.out _).mono ?_
  rintro e w2 ⟨rfl, rfl⟩
  go_wp2
  go_ret
  exact ⟨rfl, HQ.out⟩

/-! ### rows of plain values behind a sort -/
variable {α : Type}
theorem flat_cells [Inhabited α] (E : Ec α) (d : Array α) : (Go.Sort.flatK E.f E.k d).toList = E.flat d.toList := by
  have hln : (E.flat d.toList).length = d.size * E.k := by rw [E.flat_length, Array.length_toList]
  apply List.ext_getElem?
  intro t
  by_cases ht : t < d.size * E.k
  · have hj : t / E.k < d.size := Nat.div_lt_of_lt_mul (by rw [Nat.mul_comm]; exact ht)
    have hk : t % E.k < E.k := Nat.mod_lt _ E.pos
    have e0 : t / E.k * E.k + t % E.k = t := by rw [Nat.mul_comm]; exact Nat.div_add_mod t E.k
    have e1 := E.flat_get d.toList (t / E.k) (t % E.k) (by rw [Array.length_toList]; exact hj) hk
    rw [e0] at e1
    rw [e1, Array.getElem?_toList, getElem?_pos _ t (by rw [Go.Sort.size_flatK]; exact ht), ← getElem!_pos _ t (by rw [Go.Sort.size_flatK]; exact ht), Go.Sort.get_flatK E.f E.k d t ht]
    have e2 : d[t / E.k]! = d[t / E.k]'hj := getElem!_pos d _ hj
    have e3 : d.toList.getD (t / E.k) E.d = d[t / E.k]'hj := by
      rw [List.getD_eq_getElem?_getD, Array.getElem?_toList, getElem?_pos d _ hj]; rfl
    rw [e2, e3]
    have hl := E.len (d[t / E.k]'hj)
    rw [getElem!_pos (E.f _) _ (by rw [hl]; exact hk), List.getElem?_eq_getElem (by rw [hl]; exact hk)]
  · rw [List.getElem?_eq_none (by rw [Array.length_toList, Go.Sort.size_flatK]; omega), List.getElem?_eq_none (by rw [hln]; omega)]
theorem holdsE [Inhabited α] {E : Ec α} {w : World} {B g n c : Nat} {L : List α} (h : Gw E w B (.slice (some ⟨g, 0, none⟩) n c) L) : Go.Sort.HoldsK E.f E.k w g 0 L.toArray := by
  obtain ⟨hn, hB, hc, hm, cur, hg, hs, ht⟩ := h.block
  have hf := flat_cells E L.toArray
  rw [List.toList_toArray] at hf
  intro t htt
  refine ⟨?_, by simp [World.frozen?, hg]⟩
  have h1 : (Go.Sort.flatK E.f E.k L.toArray).size = n * E.k := by rw [Go.Sort.size_flatK]; simp [hn]
  have h2 : cur[t]? = (Go.Sort.flatK E.f E.k L.toArray)[t]? := by
    rw [← Array.getElem?_toList, ← Array.getElem?_toList, hf, ← ht, List.getElem?_take_of_lt (by omega)]
  rw [show (0 + t) = t by omega]
  have h3 : w.cell? ⟨g, t, none⟩ = cur[t]? := by simp [World.cell?, hg]
  rw [h3, h2, getElem?_pos _ t htt, getElem!_pos _ t htt]
  rfl
theorem take_put (F cur : Array Value) (h : F.size ≤ cur.size) : (Go.Sort.putCells id 0 F cur).toList.take F.size = F.toList := by
  apply List.ext_getElem?
  intro j
  by_cases hj : j < F.size
  · rw [List.getElem?_take_of_lt hj, Array.getElem?_toList, Array.getElem?_toList]
    simp [Go.Sort.putCells, hj, show j < cur.size by omega]
  · rw [List.getElem?_take_eq_none (by omega), List.getElem?_eq_none (by simp; omega)]
/-- what a sort's world is to a row of the call's own -/
theorem sorted_gw [Inhabited α] {E : Ec α} {w : World} {B g n c : Nat} {L : List α} (h : Gw E w B (.slice (some ⟨g, 0, none⟩) n c) L) (hB : B ≤ w.heap.size) (d' : Array α) (hd : d'.size = n) (m : Nat) (os : Array Obj) :
    Gw E (sortWorldK E.f E.k w g 0 m d' os) B (.slice (some ⟨g, 0, none⟩) n c) d'.toList ∧ Below B w (sortWorldK E.f E.k w g 0 m d' os) := by
  obtain ⟨hnl, hBg, hc, hm, cur, hg, hs, ht⟩ := h.block
  have hgl : g < w.heap.size := (Array.getElem?_eq_some_iff.1 hg).1
  constructor
  · have hgw : (sortWorldK E.f E.k w g 0 m d' os).heap[g]? = some (.cells (Go.Sort.putCells id 0 (Go.Sort.flatK E.f E.k d') cur) E.t (0, 0)) := by
      unfold sortWorldK
      rw [Go.Sort.heap_grow_old _ _ (by simpa [Go.Sort.putRowK] using hgl)]
      simp [Go.Sort.putRowK, Go.Sort.putRow, Go.Sort.mapBlock, Go.Sort.ahead, Array.getElem?_modify, hg, Go.Sort.onCells]
    have hl : d'.toList.length = n := by rw [Array.length_toList, hd]
    have hF : (Go.Sort.flatK E.f E.k d').size = n * E.k := by rw [Go.Sort.size_flatK, hd]
    have hcs : n * E.k ≤ c * E.k := Nat.mul_le_mul_right _ hc
    have := Gw.mk (E := E) (w := sortWorldK E.f E.k w g 0 m d' os) (B := B) (g := g) (c := c) (L := d'.toList) hBg (by rw [hl]; exact hc) hm hgw (by simpa [Go.Sort.putCells] using hs) (by rw [hl, ← hF, take_put _ _ (by rw [hF, hs]; exact hcs), flat_cells])
    rwa [hl] at this
  · refine (Below.refl _ _).grown (row := some g) ⟨rfl, rfl, rfl, ?_, fun k hk hne => ?_⟩ hB (fun k hk => by injection hk with hk; omega)
    · unfold sortWorldK
      simp [Go.Sort.grow, Go.Sort.putRowK, Go.Sort.putRow, Go.Sort.mapBlock, Go.Sort.ahead]
    · unfold sortWorldK
      rw [Go.Sort.heap_grow_old _ _ (by simpa [Go.Sort.putRowK] using hk)]
      have : g ≠ k := fun e => hne (by rw [e])
      simp [Go.Sort.putRowK, Go.Sort.putRow, Go.Sort.mapBlock, Go.Sort.ahead, Array.getElem?_modify, this]

set_option maxRecDepth 100000 in
theorem sortN_any (B n c : Nat) (p : Option Addr) (L : List Nd) (w : World) (h : Gw encN w B (.slice p n c) L) (hB : B ≤ w.heap.size) (hn : n ≤ 1048576) (hd : (L.map Nd.s).Nodup) :
    Calls Try.prog 35 #[.slice p n c, .func (.func 36) #[] #[]] w fun e w' => e = .returned (.tuple #[]) ∧
      ∃ L', Gw encN w' B (.slice p n c) L' ∧ rises L' ∧ (∀ x, x ∈ L' ↔ x ∈ L) ∧ Below B w w' := by
  have hlen := h.len
  cases p with
  | none =>
    have hn0 : n = 0 := by
      by_cases h0 : n = 0
      · exact h0
      · obtain ⟨g, hg⟩ := h.ptr (by omega); cases hg
    subst hn0
    obtain rfl : L = [] := List.length_eq_zero_iff.1 hlen
    have hcon := AnyF.slices_SortFunc_none sortN none c (.func (.func 36) #[] #[]) w
    change Calls Try.prog 35 _ _ _ at hcon
    refine hcon.mono ?_
    rintro e w' ⟨rfl, rfl⟩
    exact ⟨rfl, [], h, List.Pairwise.nil, fun _ => Iff.rfl, Below.refl _ _⟩
  | some ad =>
    obtain ⟨g, rfl⟩ : ∃ g, ad = ⟨g, 0, none⟩ := by
      rcases h.2 with ⟨hv, h0⟩ | ⟨g, cap', cur, hv, _⟩
      · cases hv
      · simp only [Value.slice.injEq, Option.some.injEq] at hv; exact ⟨g, hv.1⟩
    obtain ⟨hnl, hBg, hc, hm, cur, hg, hs, ht⟩ := h.block
    have eg : ∀ args w, (callFunc 36 args).run Try.prog w = .ok (.enter 36 args) w := enters_of Try.func36 (by kernel_rfl) rfl
    have hsz : L.toArray.size = n := by simp [hnl]
    have hcl : CmpLays Try.prog 36 #[] encN.f 2 cfN g 0 L.toArray.size w := fun _ _ _ _ x y => closN x y _
    have hcon := AnyQ.slices_SortFunc sortN 2 Try.isAgg48 Try.sizeOf48 encN.f encN.len encN.one cfN swoN 36 #[] g 0 c L.toArray w eg hcl (holdsE h) (Array.getElem?_eq_some_iff.1 hg).1 (by rw [hsz]; omega)
    change Calls Try.prog 35 _ _ _ at hcon
    rw [hsz] at hcon
    refine hcon.mono ?_
    rintro e w' ⟨rfl, d', m, os, ⟨hp1, _, hp2⟩, hso, rfl⟩
    rw [hsz] at hp1
    obtain ⟨h1, h2⟩ := sorted_gw h hB d' hp1 m os
    have h4 : d'.extract 0 n = d' := by rw [← hp1]; simp
    have h3 : L.toArray.extract 0 n = L.toArray := by subst hnl; simp
    rw [h4, h3] at hp2
    have hp3 : d'.toList.Perm L := by simpa using hp2
    refine ⟨rfl, d'.toList, h1, ?_, fun x => hp3.mem_iff, h2⟩
    have hnd : (d'.toList.map Nd.s).Nodup := (hp3.map Nd.s).nodup_iff.2 hd
    unfold rises
    rw [List.pairwise_iff_getElem]
    intro i j hi hj hij
    have hjn : j < n := by rw [Array.length_toList, hp1] at hj; exact hj
    have h5 := hso i j (Nat.zero_le _) hij hjn
    rw [ltN_f, getElem!_pos d' j (by omega), getElem!_pos d' i (by omega)] at h5
    refine slt_total h5 fun e => ?_
    have h6 := (List.pairwise_iff_getElem.1 hnd) i j (by simpa using hi) (by simpa using hj) hij
    simp only [List.getElem_map] at h6
    exact h6 e.symm
end Go.Proofs.Ytebkpjnnmlccmaa
