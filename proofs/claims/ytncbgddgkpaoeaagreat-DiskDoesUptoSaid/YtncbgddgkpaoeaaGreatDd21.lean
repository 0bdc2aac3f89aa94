/- Layer 11: strings.Compare; slices.SortFunc, laid at rows of names -/
import Derived.Test.YtncbgddgkpaoeaaGreatDd16
import Derived.Shelf.SlSortCmp.NoneTotal
import Derived.Lib.Bytealg
set_option linter.unusedSimpArgs false
set_option linter.unusedVariables false
namespace Go.Proofs.YtncbgddgkpaoeaaGreat
set_option linter.unusedVariables false
open Go.RowKit Go.Lib Go.Shelf

def sortN_ren : Go.Shelf.Ren := ⟨fun | 6 => 108 | 15 => 105 | 14 => 131 | 28 => 129 | 29 => 130 | 20 => 138 | 21 => 139 | 22 => 140 | 23 => 141 | 24 => 142 | 25 => 143 | 26 => 144 | 27 => 145 | 46 => 148 | 47 => 134 | 48 => 135 | 49 => 149 | 50 => 150 | 57 => 151 | n => n,
  fun | 22 => 61 | 24 => 75 | 25 => 158 | 3 => 3 | 39 => 139 | 0 => 0 | 53 => 174 | 55 => 176 | 4 => 4 | 46 => 168 | 45 => 167 | 50 => 79 | 5 => 5 | 9 => 9 | 66 => 178 | 70 => 182 | 76 => 189 | 77 => 50 | n => n,
  fun | n => n⟩
theorem sortN : Go.Proofs.SlLaysF0.n6 Tryz.prog sortN_ren := {
  mixed := by kernel_rfl,
  f6 := ⟨Tryz.f108.name, by decide, Tryz.func108.trans (congrArg some (by kernel_rfl))⟩,
  f14 := ⟨Tryz.f131.name, by decide, Tryz.func131.trans (congrArg some (by kernel_rfl))⟩,
  f15 := Tryz.func105.trans (congrArg some (by kernel_rfl)),
  f20 := ⟨Tryz.f138.name, by decide, Tryz.func138.trans (congrArg some (by kernel_rfl))⟩,
  f21 := ⟨Tryz.f139.name, by decide, Tryz.func139.trans (congrArg some (by kernel_rfl))⟩,
  f22 := ⟨Tryz.f140.name, by decide, Tryz.func140.trans (congrArg some (by kernel_rfl))⟩,
  f23 := ⟨Tryz.f141.name, by decide, Tryz.func141.trans (congrArg some (by kernel_rfl))⟩,
  f24 := ⟨Tryz.f142.name, by decide, Tryz.func142.trans (congrArg some (by kernel_rfl))⟩,
  f25 := ⟨Tryz.f143.name, by decide, Tryz.func143.trans (congrArg some (by kernel_rfl))⟩,
  f26 := ⟨Tryz.f144.name, by decide, Tryz.func144.trans (congrArg some (by kernel_rfl))⟩,
  f27 := ⟨Tryz.f145.name, by decide, Tryz.func145.trans (congrArg some (by kernel_rfl))⟩,
  f28 := Tryz.func129.trans (congrArg some (by kernel_rfl)),
  f29 := Tryz.func130.trans (congrArg some (by kernel_rfl)),
  f46 := ⟨Tryz.f148.name, by decide, Tryz.func148.trans (congrArg some (by kernel_rfl))⟩,
  f47 := Tryz.func134.trans (congrArg some (by kernel_rfl)),
  f48 := Tryz.func135.trans (congrArg some (by kernel_rfl)),
  f49 := ⟨Tryz.f149.name, by decide, Tryz.func149.trans (congrArg some (by kernel_rfl))⟩,
  f50 := ⟨Tryz.f150.name, by decide, Tryz.func150.trans (congrArg some (by kernel_rfl))⟩,
  f57 := ⟨Tryz.f151.name, by decide, Tryz.func151.trans (congrArg some (by kernel_rfl))⟩,
  t0 := Tryz.underlying0,
  a0 := Tryz.isAgg0,
  z0 := Tryz.sizeOf0,
  v0 := Tryz.zeroValue0,
  t3 := Tryz.underlying3,
  a3 := Tryz.isAgg3,
  z3 := Tryz.sizeOf3,
  v3 := Tryz.zeroValue3,
  t4 := Tryz.underlying4,
  a4 := Tryz.isAgg4,
  z4 := Tryz.sizeOf4,
  v4 := Tryz.zeroValue4,
  t5 := Tryz.underlying5,
  a5 := Tryz.isAgg5,
  z5 := Tryz.sizeOf5,
  v5 := Tryz.zeroValue5,
  t9 := Tryz.underlying9,
  a9 := Tryz.isAgg9,
  z9 := Tryz.sizeOf9,
  v9 := Tryz.zeroValue9,
  t22 := Tryz.underlying61,
  a22 := Tryz.isAgg61,
  z22 := Tryz.sizeOf61,
  v22 := Tryz.zeroValue61,
  t25 := Tryz.underlying158,
  a25 := Tryz.isAgg158,
  z25 := Tryz.sizeOf158,
  v25 := Tryz.zeroValue158,
  t39 := Tryz.underlying139,
  a39 := Tryz.isAgg139,
  z39 := Tryz.sizeOf139,
  v39 := Tryz.zeroValue139,
  t45 := Tryz.underlying167,
  a45 := Tryz.isAgg167,
  z45 := Tryz.sizeOf167,
  v45 := Tryz.zeroValue167,
  t46 := Tryz.underlying168,
  a46 := Tryz.isAgg168,
  z46 := Tryz.sizeOf168,
  v46 := Tryz.zeroValue168,
  t50 := Tryz.underlying79,
  a50 := Tryz.isAgg79,
  z50 := Tryz.sizeOf79,
  v50 := Tryz.zeroValue79,
  t53 := Tryz.underlying174,
  a53 := Tryz.isAgg174,
  z53 := Tryz.sizeOf174,
  v53 := Tryz.zeroValue174,
  t55 := Tryz.underlying176,
  a55 := Tryz.isAgg176,
  z55 := Tryz.sizeOf176,
  v55 := Tryz.zeroValue176,
  t66 := Tryz.underlying178,
  a66 := Tryz.isAgg178,
  z66 := Tryz.sizeOf178,
  v66 := Tryz.zeroValue178,
  t70 := Tryz.underlying182,
  a70 := Tryz.isAgg182,
  z70 := Tryz.sizeOf182,
  v70 := Tryz.zeroValue182,
  t76 := Tryz.underlying189,
  a76 := Tryz.isAgg189,
  z76 := Tryz.sizeOf189,
  v76 := Tryz.zeroValue189,
  t77 := Tryz.underlying50,
  a77 := Tryz.isAgg50,
  z77 := Tryz.sizeOf50,
  v77 := Tryz.zeroValue50 }

theorem cmpb_neg : ∀ (a b : List UInt8), Lib.compareBytes a b < 0 ↔ a < b
  | [], [] => by simp [Lib.compareBytes]
  | [], _ :: _ => by simp [Lib.compareBytes]
  | _ :: _, [] => by simp [Lib.compareBytes]
  | a :: x, b :: y => by
    rw [Lib.compareBytes, List.cons_lt_cons_iff]
    by_cases h1 : a < b
    · simp [h1]
    · rw [if_neg h1]
      by_cases h2 : b < a
      · have : a ≠ b := fun e => by subst e; exact h1 h2
        simp [h2, h1, this]
      · have : a = b := by
          rcases Nat.lt_trichotomy a.toNat b.toNat with h | h | h
          · exact absurd (UInt8.lt_iff_toNat_lt.2 h) h1
          · exact UInt8.toNat_inj.1 h
          · exact absurd (UInt8.lt_iff_toNat_lt.2 h) h2
        rw [if_neg h2, cmpb_neg x y]
        simp [this]
set_option maxRecDepth 100000 in
set_option maxHeartbeats 1000000 in
theorem cmpstr_any (a b : ByteArray) (w : World) : Calls Tryz.prog 132 #[.string a, .string b] w fun e w' => e = .returned (.int .i64 (Lib.compareBytes a.data.toList b.data.toList)) ∧ w' = w := by
  go_enter Tryz.func132, Tryz.ntmps132
  go_wp2
  rw [run_callFunc_extern Tryz.func146 (by kernel_rfl) (by kernel_rfl) (by kernel_rfl) (e := Extern.BytealgCompare.compare) (by kernel_rfl), Lib.run_compareString]
  simp only [Result.andThen]
  rw [Oper.upon_value]
  go_wp2
  go_ret
  exact ⟨rfl, rfl⟩
set_option maxRecDepth 100000 in
theorem scmp_any (a b : ByteArray) (w : World) : Calls Tryz.prog 110 #[.string a, .string b] w fun e w' => e = .returned (.int .i64 (Lib.compareBytes a.data.toList b.data.toList)) ∧ w' = w := by
  go_enter Tryz.func110, Tryz.ntmps110
  go_wp2_with fail
  refine (cmpstr_any a b w).mono ?_
  rintro e w2 ⟨rfl, rfl⟩
  go_wp2
  go_ret
  exact ⟨rfl, rfl⟩

instance : Inhabited Nd := ⟨nd0⟩
def cfN (x y : Nd) : Int := Lib.compareBytes x.s.data.toList y.s.data.toList
theorem ltN (x y : Nd) : ltOf cfN x y = true ↔ slt x.s y.s := by
  unfold ltOf cfN slt
  rw [decide_eq_true_iff, cmpb_neg, bytes_toList, bytes_toList]
theorem ltN_f (x y : Nd) : ltOf cfN x y = false ↔ ¬ slt x.s y.s := by
  rw [← ltN]; simp
theorem swoN : Go.Sort.SWO (ltOf cfN) where
  irrefl x := (ltN_f _ _).2 (slt_irrefl _)
  trans x y z h1 h2 := (ltN _ _).2 (slt_trans ((ltN _ _).1 h1) ((ltN _ _).1 h2))
  ntrans x y z h1 h2 := by
    rw [ltN_f] at *
    intro h
    by_cases e : x.s = y.s
    · rw [e] at h; exact h2 h
    · exact h2 (slt_trans (slt_total h1 e) h)
set_option maxRecDepth 100000 in
theorem closN (a b : Nd) (w : World) : Calls Tryz.prog 109 #[.agg #[.string a.s, .int .i64 a.id], .agg #[.string b.s, .int .i64 b.id]] w fun e w' => e = .returned (.int .i64 (cfN a b)) ∧ ∃ q os', w' = Go.Sort.grow (w.drewN q) os' := by
  obtain ⟨aa, ai⟩ := a
  obtain ⟨bb, bi⟩ := b
  have HC := Lib.hid (scmp_any aa bb)
  unfold cfN
  dsimp only
  generalize Lib.compareBytes aa.data.toList bb.data.toList = c at *
  obtain ⟨w1, hw1⟩ : ∃ W, (w.alloc (.cells #[.string aa, .int .i64 ai] 75)).alloc (.cells #[.string bb, .int .i64 bi] 75) = W := ⟨_, rfl⟩
  have HQ : Hid (∃ q os', w1 = Go.Sort.grow (w.drewN q) os') := Lib.hid ⟨0, #[.cells #[.string aa, .int .i64 ai] 75] ++ #[.cells #[.string bb, .int .i64 bi] 75], by rw [← hw1, ← Go.Sort.grow_grow]; rfl⟩
  have e0 : w1.heap[w.heap.size]? = some (.cells #[.string aa, .int .i64 ai] 75 (0, 0)) := by
    rw [← hw1]
    exact (heap_alloc_old _ _ (by simp)).trans (heap_alloc_new _ _)
  have e1 : w1.heap[w.heap.size + 1]? = some (.cells #[.string bb, .int .i64 bi] 75 (0, 0)) := by rw [← hw1]; exact two_newF _ _ _
  have g0 : w1.cell? ⟨w.heap.size, 0, none⟩ = some (.string aa) := by rw [cell_of_row _ _ _ _ _ _ e0]; rfl
  have g1 : w1.cell? ⟨w.heap.size + 1, 0, none⟩ = some (.string bb) := by rw [cell_of_row _ _ _ _ _ _ e1]; rfl
  clear e0 e1
  go_enter Tryz.func109, Tryz.ntmps109
  go_wp2_with fail
  refine (HC.out _).mono ?_
  rintro e w2 ⟨rfl, rfl⟩
  go_wp2
  go_ret
  exact ⟨rfl, HQ.out⟩

/-! ### rows of plain values behind a sort -/
variable {α : Type}
theorem flat_cells [Inhabited α] (E : Ec α) (d : Array α) : (Go.Sort.flatK E.f E.k d).toList = E.flat d.toList := by
  have hln : (E.flat d.toList).length = d.size * E.k := by rw [E.flat_length, Array.length_toList]
  apply List.ext_getElem?
  intro t
  by_cases ht : t < d.size * E.k
  · have hj : t / E.k < d.size := Nat.div_lt_of_lt_mul (by rw [Nat.mul_comm]; exact ht)
    have hk : t % E.k < E.k := Nat.mod_lt _ E.pos
    have e0 : t / E.k * E.k + t % E.k = t := by rw [Nat.mul_comm]; exact Nat.div_add_mod t E.k
    have e1 := E.flat_get d.toList (t / E.k) (t % E.k) (by rw [Array.length_toList]; exact hj) hk
    rw [e0] at e1
    rw [e1, Array.getElem?_toList, getElem?_pos _ t (by rw [Go.Sort.size_flatK]; exact ht), ← getElem!_pos _ t (by rw [Go.Sort.size_flatK]; exact ht), Go.Sort.get_flatK E.f E.k d t ht]
    have e2 : d[t / E.k]! = d[t / E.k]'hj := getElem!_pos d _ hj
    have e3 : d.toList.getD (t / E.k) E.d = d[t / E.k]'hj := by
      rw [List.getD_eq_getElem?_getD, Array.getElem?_toList, getElem?_pos d _ hj]; rfl
    rw [e2, e3]
    have hl := E.len (d[t / E.k]'hj)
    rw [getElem!_pos (E.f _) _ (by rw [hl]; exact hk), List.getElem?_eq_getElem (by rw [hl]; exact hk)]
  · rw [List.getElem?_eq_none (by rw [Array.length_toList, Go.Sort.size_flatK]; omega), List.getElem?_eq_none (by rw [hln]; omega)]
theorem holdsE [Inhabited α] {E : Ec α} {w : World} {B g n c : Nat} {L : List α} (h : Gw E w B (.slice (some ⟨g, 0, none⟩) n c) L) : Go.Sort.HoldsK E.f E.k w g 0 L.toArray := by
  obtain ⟨hn, hB, hc, hm, cur, hg, hs, ht⟩ := h.block
  have hf := flat_cells E L.toArray
  rw [List.toList_toArray] at hf
  intro t htt
  refine ⟨?_, by simp [World.frozen?, hg]⟩
  have h1 : (Go.Sort.flatK E.f E.k L.toArray).size = n * E.k := by rw [Go.Sort.size_flatK]; simp [hn]
  have h2 : cur[t]? = (Go.Sort.flatK E.f E.k L.toArray)[t]? := by
    rw [← Array.getElem?_toList, ← Array.getElem?_toList, hf, ← ht, List.getElem?_take_of_lt (by omega)]
  rw [show (0 + t) = t by omega]
  have h3 : w.cell? ⟨g, t, none⟩ = cur[t]? := by simp [World.cell?, hg]
  rw [h3, h2, getElem?_pos _ t htt, getElem!_pos _ t htt]
  rfl
theorem take_put (F cur : Array Value) (h : F.size ≤ cur.size) : (Go.Sort.putCells id 0 F cur).toList.take F.size = F.toList := by
  apply List.ext_getElem?
  intro j
  by_cases hj : j < F.size
  · rw [List.getElem?_take_of_lt hj, Array.getElem?_toList, Array.getElem?_toList]
    simp [Go.Sort.putCells, hj, show j < cur.size by omega]
  · rw [List.getElem?_take_eq_none (by omega), List.getElem?_eq_none (by simp; omega)]
/-- what a sort's world is to a row of the call's own -/
theorem sorted_gw [Inhabited α] {E : Ec α} {w : World} {B g n c : Nat} {L : List α} (h : Gw E w B (.slice (some ⟨g, 0, none⟩) n c) L) (hB : B ≤ w.heap.size) (d' : Array α) (hd : d'.size = n) (m : Nat) (os : Array Obj) :
    Gw E (sortWorldK E.f E.k w g 0 m d' os) B (.slice (some ⟨g, 0, none⟩) n c) d'.toList ∧ Below B w (sortWorldK E.f E.k w g 0 m d' os) := by
  obtain ⟨hnl, hBg, hc, hm, cur, hg, hs, ht⟩ := h.block
  have hgl : g < w.heap.size := (Array.getElem?_eq_some_iff.1 hg).1
  constructor
  · have hgw : (sortWorldK E.f E.k w g 0 m d' os).heap[g]? = some (.cells (Go.Sort.putCells id 0 (Go.Sort.flatK E.f E.k d') cur) E.t (0, 0)) := by
      unfold sortWorldK
      rw [Go.Sort.heap_grow_old _ _ (by simpa [Go.Sort.putRowK] using hgl)]
      simp [Go.Sort.putRowK, Go.Sort.putRow, Go.Sort.mapBlock, Go.Sort.ahead, Array.getElem?_modify, hg, Go.Sort.onCells]
    have hl : d'.toList.length = n := by rw [Array.length_toList, hd]
    have hF : (Go.Sort.flatK E.f E.k d').size = n * E.k := by rw [Go.Sort.size_flatK, hd]
    have hcs : n * E.k ≤ c * E.k := Nat.mul_le_mul_right _ hc
    have := Gw.mk (E := E) (w := sortWorldK E.f E.k w g 0 m d' os) (B := B) (g := g) (c := c) (L := d'.toList) hBg (by rw [hl]; exact hc) hm hgw (by simpa [Go.Sort.putCells] using hs) (by rw [hl, ← hF, take_put _ _ (by rw [hF, hs]; exact hcs), flat_cells])
    rwa [hl] at this
  · refine (Below.refl _ _).grown (row := some g) ⟨rfl, rfl, rfl, ?_, fun k hk hne => ?_⟩ hB (fun k hk => by injection hk with hk; omega)
    · unfold sortWorldK
      simp [Go.Sort.grow, Go.Sort.putRowK, Go.Sort.putRow, Go.Sort.mapBlock, Go.Sort.ahead]
    · unfold sortWorldK
      rw [Go.Sort.heap_grow_old _ _ (by simpa [Go.Sort.putRowK] using hk)]
      have : g ≠ k := fun e => hne (by rw [e])
      simp [Go.Sort.putRowK, Go.Sort.putRow, Go.Sort.mapBlock, Go.Sort.ahead, Array.getElem?_modify, this]

set_option maxRecDepth 100000 in
theorem sortN_any (B n c : Nat) (p : Option Addr) (L : List Nd) (w : World) (h : Gw encN w B (.slice p n c) L) (hB : B ≤ w.heap.size) (hn : n ≤ 1048576) (hd : (L.map Nd.s).Nodup) :
    Calls Tryz.prog 108 #[.slice p n c, .func (.func 109) #[] #[]] w fun e w' => e = .returned (.tuple #[]) ∧
      ∃ L', Gw encN w' B (.slice p n c) L' ∧ rises L' ∧ (∀ x, x ∈ L' ↔ x ∈ L) ∧ Below B w w' := by
  have hlen := h.len
  cases p with
  | none =>
    have hn0 : n = 0 := by
      by_cases h0 : n = 0
      · exact h0
      · obtain ⟨g, hg⟩ := h.ptr (by omega); cases hg
    subst hn0
    obtain rfl : L = [] := List.length_eq_zero_iff.1 hlen
    have hcon := AnyF.slices_SortFunc_none sortN none c (.func (.func 109) #[] #[]) w
    change Calls Tryz.prog 108 _ _ _ at hcon
    refine hcon.mono ?_
    rintro e w' ⟨rfl, rfl⟩
    exact ⟨rfl, [], h, List.Pairwise.nil, fun _ => Iff.rfl, Below.refl _ _⟩
  | some ad =>
    obtain ⟨g, rfl⟩ : ∃ g, ad = ⟨g, 0, none⟩ := by
      rcases h.2 with ⟨hv, h0⟩ | ⟨g, cap', cur, hv, _⟩
      · cases hv
      · simp only [Value.slice.injEq, Option.some.injEq] at hv; exact ⟨g, hv.1⟩
    obtain ⟨hnl, hBg, hc, hm, cur, hg, hs, ht⟩ := h.block
    have eg : ∀ args w, (callFunc 109 args).run Tryz.prog w = .ok (.enter 109 args) w := enters_of Tryz.func109 (by kernel_rfl) rfl
    have hsz : L.toArray.size = n := by simp [hnl]
    have hcl : CmpLays Tryz.prog 109 #[] encN.f 2 cfN g 0 L.toArray.size w := fun _ _ _ _ x y => closN x y _
    have hcon := AnyQ.slices_SortFunc sortN 2 Tryz.isAgg75 Tryz.sizeOf75 encN.f encN.len encN.one cfN swoN 109 #[] g 0 c L.toArray w eg hcl (holdsE h) (Array.getElem?_eq_some_iff.1 hg).1 (by rw [hsz]; omega)
    change Calls Tryz.prog 108 _ _ _ at hcon
    rw [hsz] at hcon
    refine hcon.mono ?_
    rintro e w' ⟨rfl, d', m, os, ⟨hp1, _, hp2⟩, hso, rfl⟩
    rw [hsz] at hp1
    obtain ⟨h1, h2⟩ := sorted_gw h hB d' hp1 m os
    have h4 : d'.extract 0 n = d' := by rw [← hp1]; simp
    have h3 : L.toArray.extract 0 n = L.toArray := by subst hnl; simp
    rw [h4, h3] at hp2
    have hp3 : d'.toList.Perm L := by simpa using hp2
    refine ⟨rfl, d'.toList, h1, ?_, fun x => hp3.mem_iff, h2⟩
    have hnd : (d'.toList.map Nd.s).Nodup := (hp3.map Nd.s).nodup_iff.2 hd
    unfold rises
    rw [List.pairwise_iff_getElem]
    intro i j hi hj hij
    have hjn : j < n := by rw [Array.length_toList, hp1] at hj; exact hj
    have h5 := hso i j (Nat.zero_le _) hij hjn
    rw [ltN_f, getElem!_pos d' j (by omega), getElem!_pos d' i (by omega)] at h5
    refine slt_total h5 fun e => ?_
    have h6 := (List.pairwise_iff_getElem.1 hnd) i j (by simpa using hi) (by simpa using hj) hij
    simp only [List.getElem_map] at h6
    exact h6 e.symm
end Go.Proofs.YtncbgddgkpaoeaaGreat
