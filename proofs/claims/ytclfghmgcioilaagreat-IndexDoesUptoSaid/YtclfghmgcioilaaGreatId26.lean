/- slices.SortFunc, laid at the row of digests -/
import Derived.Test.YtclfghmgcioilaaGreatId25
import Derived.Shelf.SlSortCmp.NoneTotal
set_option linter.unusedSimpArgs false
set_option linter.unusedVariables false
namespace Go.Proofs.YtclfghmgcioilaaGreat
set_option linter.unusedVariables false
open Go.RowKit Go.Lib Go.Shelf

def sortD_ren : Go.Shelf.Ren := ⟨fun | 6 => 53 | 15 => 62 | 14 => 61 | 28 => 78 | 29 => 79 | 20 => 70 | 21 => 71 | 22 => 72 | 23 => 73 | 24 => 74 | 25 => 75 | 26 => 76 | 27 => 77 | 46 => 85 | 47 => 86 | 48 => 87 | 49 => 88 | 50 => 89 | 57 => 99 | n => n,
  fun | 22 => 66 | 24 => 29 | 25 => 94 | 3 => 3 | 39 => 98 | 0 => 0 | 53 => 115 | 55 => 27 | 4 => 4 | 46 => 109 | 45 => 108 | 50 => 78 | 5 => 5 | 9 => 9 | 66 => 119 | 70 => 123 | 76 => 130 | 77 => 46 | n => n,
  fun | n => n⟩
theorem sortD : Go.Proofs.SlLaysF0.n6 Tryz.prog sortD_ren := {
  mixed := by kernel_rfl,
  f6 := ⟨Tryz.f53.name, by decide, Tryz.func53.trans (congrArg some (by kernel_rfl))⟩,
  f14 := ⟨Tryz.f61.name, by decide, Tryz.func61.trans (congrArg some (by kernel_rfl))⟩,
  f15 := Tryz.func62.trans (congrArg some (by kernel_rfl)),
  f20 := ⟨Tryz.f70.name, by decide, Tryz.func70.trans (congrArg some (by kernel_rfl))⟩,
  f21 := ⟨Tryz.f71.name, by decide, Tryz.func71.trans (congrArg some (by kernel_rfl))⟩,
  f22 := ⟨Tryz.f72.name, by decide, Tryz.func72.trans (congrArg some (by kernel_rfl))⟩,
  f23 := ⟨Tryz.f73.name, by decide, Tryz.func73.trans (congrArg some (by kernel_rfl))⟩,
  f24 := ⟨Tryz.f74.name, by decide, Tryz.func74.trans (congrArg some (by kernel_rfl))⟩,
  f25 := ⟨Tryz.f75.name, by decide, Tryz.func75.trans (congrArg some (by kernel_rfl))⟩,
  f26 := ⟨Tryz.f76.name, by decide, Tryz.func76.trans (congrArg some (by kernel_rfl))⟩,
  f27 := ⟨Tryz.f77.name, by decide, Tryz.func77.trans (congrArg some (by kernel_rfl))⟩,
  f28 := Tryz.func78.trans (congrArg some (by kernel_rfl)),
  f29 := Tryz.func79.trans (congrArg some (by kernel_rfl)),
  f46 := ⟨Tryz.f85.name, by decide, Tryz.func85.trans (congrArg some (by kernel_rfl))⟩,
  f47 := Tryz.func86.trans (congrArg some (by kernel_rfl)),
  f48 := Tryz.func87.trans (congrArg some (by kernel_rfl)),
  f49 := ⟨Tryz.f88.name, by decide, Tryz.func88.trans (congrArg some (by kernel_rfl))⟩,
  f50 := ⟨Tryz.f89.name, by decide, Tryz.func89.trans (congrArg some (by kernel_rfl))⟩,
  f57 := ⟨Tryz.f99.name, by decide, Tryz.func99.trans (congrArg some (by kernel_rfl))⟩,
  t0 := Tryz.underlying0,
  a0 := Tryz.isAgg0,
  z0 := Tryz.sizeOf0,
  v0 := Tryz.zeroValue0,
  t3 := Tryz.underlying3,
  a3 := Tryz.isAgg3,
  z3 := Tryz.sizeOf3,
  v3 := Tryz.zeroValue3,
  t4 := Tryz.underlying4,
  a4 := Tryz.isAgg4,
  z4 := Tryz.sizeOf4,
  v4 := Tryz.zeroValue4,
  t5 := Tryz.underlying5,
  a5 := Tryz.isAgg5,
  z5 := Tryz.sizeOf5,
  v5 := Tryz.zeroValue5,
  t9 := Tryz.underlying9,
  a9 := Tryz.isAgg9,
  z9 := Tryz.sizeOf9,
  v9 := Tryz.zeroValue9,
  t22 := Tryz.underlying66,
  a22 := Tryz.isAgg66,
  z22 := Tryz.sizeOf66,
  v22 := Tryz.zeroValue66,
  t25 := Tryz.underlying94,
  a25 := Tryz.isAgg94,
  z25 := Tryz.sizeOf94,
  v25 := Tryz.zeroValue94,
  t39 := Tryz.underlying98,
  a39 := Tryz.isAgg98,
  z39 := Tryz.sizeOf98,
  v39 := Tryz.zeroValue98,
  t45 := Tryz.underlying108,
  a45 := Tryz.isAgg108,
  z45 := Tryz.sizeOf108,
  v45 := Tryz.zeroValue108,
  t46 := Tryz.underlying109,
  a46 := Tryz.isAgg109,
  z46 := Tryz.sizeOf109,
  v46 := Tryz.zeroValue109,
  t50 := Tryz.underlying78,
  a50 := Tryz.isAgg78,
  z50 := Tryz.sizeOf78,
  v50 := Tryz.zeroValue78,
  t53 := Tryz.underlying115,
  a53 := Tryz.isAgg115,
  z53 := Tryz.sizeOf115,
  v53 := Tryz.zeroValue115,
  t55 := Tryz.underlying27,
  a55 := Tryz.isAgg27,
  z55 := Tryz.sizeOf27,
  v55 := Tryz.zeroValue27,
  t66 := Tryz.underlying119,
  a66 := Tryz.isAgg119,
  z66 := Tryz.sizeOf119,
  v66 := Tryz.zeroValue119,
  t70 := Tryz.underlying123,
  a70 := Tryz.isAgg123,
  z70 := Tryz.sizeOf123,
  v70 := Tryz.zeroValue123,
  t76 := Tryz.underlying130,
  a76 := Tryz.isAgg130,
  z76 := Tryz.sizeOf130,
  v76 := Tryz.zeroValue130,
  t77 := Tryz.underlying46,
  a77 := Tryz.isAgg46,
  z77 := Tryz.sizeOf46,
  v77 := Tryz.zeroValue46 }

abbrev Dg : Type := {d : List Int // dok d}
instance : Inhabited Dg := ⟨⟨dzero, dok_zero⟩⟩
def encD (x : Dg) : List Value := x.1.map (Value.int .u8)
def cfD (x y : Dg) : Int := dcmp x.1 y.1
theorem ltD (x y : Dg) : ltOf cfD x y = dlt x.1 y.1 := by
  unfold ltOf cfD dcmp
  cases h : dlt x.1 y.1
  · rw [if_neg (by simp)]
    split <;> rfl
  · rfl
theorem lenD (x : Dg) : (encD x).length = 32 := by rw [encD, List.length_map, x.2.1]
theorem oneD (x : Dg) : ∀ v ∈ encD x, v.oneCell' = true := by
  intro v hv
  obtain ⟨z, _, rfl⟩ := List.mem_map.1 hv
  rfl
theorem swoD : Go.Sort.SWO (ltOf cfD) where
  irrefl x := by rw [ltD, dlt_self]
  trans x y z h1 h2 := by rw [ltD] at *; exact dlt_trans h1 h2
  ntrans x y z h1 h2 := by
    rw [ltD] at *
    cases h : dlt x.1 z.1
    · rfl
    · cases h3 : dlt y.1 x.1
      · have e := dlt_total (by rw [x.2.1, y.2.1]) h1 h3
        rw [e, h2] at h; cases h
      · rw [dlt_trans h3 h] at h2; cases h2
theorem cmpLaysD (blk off size : Nat) (w : World) : CmpLays Tryz.prog 54 #[] encD 32 cfD blk off size w :=
  fun _ _ _ _ x y => cmp_grow x.1 y.1 _ x.2 y.2

theorem flat_cells (d : Array Dg) : (Go.Sort.flatK encD 32 d).toList = dcells (d.toList.map (·.1)) := by
  have hok : ∀ x ∈ d.toList.map (·.1), dok x := by
    intro x hx
    obtain ⟨y, _, rfl⟩ := List.mem_map.1 hx
    exact y.2
  have hln : (dcells (d.toList.map (·.1))).length = d.size * 32 := by rw [dcells_length hok, List.length_map, Array.length_toList]
  apply List.ext_getElem?
  intro t
  by_cases ht : t < d.size * 32
  · have hj : t / 32 < d.size := by omega
    have hk : t % 32 < 32 := by omega
    have e1 := dcells_get hok (t / 32) (t % 32) (by rw [List.length_map, Array.length_toList]; exact hj) hk
    rw [show t / 32 * 32 + t % 32 = t by omega] at e1
    rw [e1, Array.getElem?_toList, getElem?_pos _ t (by rw [Go.Sort.size_flatK]; exact ht), ← getElem!_pos _ t (by rw [Go.Sort.size_flatK]; exact ht), Go.Sort.get_flatK encD 32 d t ht]
    have e2 : d[t / 32]! = d[t / 32]'hj := getElem!_pos d _ hj
    rw [e2]
    have e3 : (d.toList.map (·.1)).getD (t / 32) [] = (d[t / 32]'hj).1 := by
      rw [List.getD_eq_getElem?_getD, List.getElem?_map, Array.getElem?_toList, getElem?_pos d _ hj]; rfl
    rw [e3]
    have hl := lenD (d[t / 32]'hj)
    rw [getElem!_pos (encD _) _ (by rw [hl]; exact hk)]
    have h5 : t % 32 < (d[t / 32]'hj).1.length := by rw [(d[t / 32]'hj).2.1]; exact hk
    simp [encD, List.getD_eq_getElem?_getD, h5]
  · rw [List.getElem?_eq_none (by rw [Array.length_toList, Go.Sort.size_flatK]; omega), List.getElem?_eq_none (by rw [hln]; omega)]

theorem attach_val (L : List (List Int)) (h : ∀ d ∈ L, dok d) : (L.attachWith dok h).toArray.toList.map (·.1) = L := by
  simp
theorem holdsD {w : World} {B g n c : Nat} {L : List (List Int)} (h : Od w B (.slice (some ⟨g, 0, none⟩) n c) L) : Go.Sort.HoldsK encD 32 w g 0 (L.attachWith dok h.1).toArray := by
  obtain ⟨hn, hB, hc, hm, cur, hg, hs, ht⟩ := h.block
  have hf := flat_cells (L.attachWith dok h.1).toArray
  rw [attach_val] at hf
  intro t htt
  refine ⟨?_, by simp [World.frozen?, hg]⟩
  have h1 : (Go.Sort.flatK encD 32 (L.attachWith dok h.1).toArray).size = n * 32 := by rw [Go.Sort.size_flatK]; simp [hn]
  have h2 : cur[t]? = (Go.Sort.flatK encD 32 (L.attachWith dok h.1).toArray)[t]? := by
    rw [← Array.getElem?_toList, ← Array.getElem?_toList, hf, ← ht, List.getElem?_take_of_lt (by omega)]
  rw [show (0 + t) = t by omega]
  have h3 : w.cell? ⟨g, t, none⟩ = cur[t]? := by simp [World.cell?, hg]
  rw [h3, h2, getElem?_pos _ t htt, getElem!_pos _ t htt]
  rfl
theorem take_put (F cur : Array Value) (h : F.size ≤ cur.size) : (Go.Sort.putCells id 0 F cur).toList.take F.size = F.toList := by
  apply List.ext_getElem?
  intro j
  by_cases hj : j < F.size
  · rw [List.getElem?_take_of_lt hj, Array.getElem?_toList, Array.getElem?_toList]
    simp [Go.Sort.putCells, hj, show j < cur.size by omega]
  · rw [List.getElem?_take_eq_none (by omega), List.getElem?_eq_none (by simp; omega)]

set_option maxRecDepth 100000 in
theorem sort_any (B g n c : Nat) (L : List (List Int)) (w : World) (h : Od w B (.slice (some ⟨g, 0, none⟩) n c) L) (hB : B ≤ w.heap.size) (hn : n ≤ 1048576) :
    Calls Tryz.prog 53 #[.slice (some ⟨g, 0, none⟩) n c, .func (.func 54) #[] #[]] w fun e w' => e = .returned (.tuple #[]) ∧
      ∃ L', Od w' B (.slice (some ⟨g, 0, none⟩) n c) L' ∧ dsorted L' ∧ (∀ x, x ∈ L' ↔ x ∈ L) ∧ Below B w w' := by
  obtain ⟨hnl, hBg, hc, hm, cur, hg, hs, ht⟩ := h.block
  have eg : ∀ args w, (callFunc 54 args).run Tryz.prog w = .ok (.enter 54 args) w := enters_of Tryz.func54 (by kernel_rfl) rfl
  have hsz : (L.attachWith dok h.1).toArray.size = n := by simp [hnl]
  have hcon := AnyQ.slices_SortFunc sortD 32 Tryz.isAgg29 Tryz.sizeOf29 encD lenD oneD cfD swoD 54 #[] g 0 c (L.attachWith dok h.1).toArray w eg (cmpLaysD g 0 _ w) (holdsD h) (Array.getElem?_eq_some_iff.1 hg).1 (by rw [hsz]; omega)
  change Calls Tryz.prog 53 _ _ _ at hcon
  rw [hsz] at hcon
  refine hcon.mono ?_
  rintro e w' ⟨rfl, d', m, os, ⟨hp1, _, hp2⟩, hso, rfl⟩
  rw [hsz] at hp1
  refine ⟨rfl, d'.toList.map (·.1), ?_, ?_, fun x => ?_, ?_⟩
  · have hgl : g < w.heap.size := (Array.getElem?_eq_some_iff.1 hg).1
    have hgw : (sortWorldK encD 32 w g 0 m d' os).heap[g]? = some (.cells (Go.Sort.putCells id 0 (Go.Sort.flatK encD 32 d') cur) 29 (0, 0)) := by
      unfold sortWorldK
      rw [Go.Sort.heap_grow_old _ _ (by simpa [Go.Sort.putRowK] using hgl)]
      simp [Go.Sort.putRowK, Go.Sort.putRow, Go.Sort.mapBlock, Go.Sort.ahead, Array.getElem?_modify, hg, Go.Sort.onCells]
    have hl : (d'.toList.map (·.1)).length = n := by rw [List.length_map, Array.length_toList, hp1]
    have hF : (Go.Sort.flatK encD 32 d').size = n * 32 := by rw [Go.Sort.size_flatK, hp1]
    have := Od.mk (w := sortWorldK encD 32 w g 0 m d' os) (B := B) (g := g) (c := c) (L := d'.toList.map (·.1)) (fun x hx => by
      obtain ⟨y, _, rfl⟩ := List.mem_map.1 hx
      exact y.2) hBg (by rw [hl]; exact hc) hm hgw (by simpa [Go.Sort.putCells] using hs) (by rw [hl, ← hF, take_put _ _ (by rw [hF]; omega), flat_cells])
    rwa [hl] at this
  · intro i j hij hj
    rw [List.length_map, Array.length_toList, hp1] at hj
    have := hso i j (Nat.zero_le _) hij hj
    rw [ltD] at this
    have e : ∀ q, q < n → (d'.toList.map (·.1)).getD q [] = (d'[q]!).1 := fun q hq => by
      rw [List.getD_eq_getElem?_getD, List.getElem?_map, Array.getElem?_toList, getElem?_pos d' q (by omega), getElem!_pos d' q (by omega)]; rfl
    rw [e j hj, e i (by omega)]
    exact this
  · have h1 : d'.extract 0 n = d' := by rw [← hp1]; simp
    have h3 : (L.attachWith dok h.1).toArray.extract 0 n = (L.attachWith dok h.1).toArray := by subst hnl; simp; exact List.take_of_length_le (by simp)
    rw [h1, h3] at hp2
    have h2 := (hp2.map (·.1)).mem_iff (a := x)
    rw [h2, attach_val]
  · have hgl : g < w.heap.size := (Array.getElem?_eq_some_iff.1 hg).1
    refine (Below.refl _ _).grown (row := some g) ⟨rfl, rfl, rfl, ?_, fun k hk hne => ?_⟩ hB (fun k hk => by injection hk with hk; omega)
    · unfold sortWorldK
      simp [Go.Sort.grow, Go.Sort.putRowK, Go.Sort.putRow, Go.Sort.mapBlock, Go.Sort.ahead]
    · unfold sortWorldK
      rw [Go.Sort.heap_grow_old _ _ (by simpa [Go.Sort.putRowK] using hk)]
      have : g ≠ k := fun e => hne (by rw [e])
      simp [Go.Sort.putRowK, Go.Sort.putRow, Go.Sort.mapBlock, Go.Sort.ahead, Array.getElem?_modify, this]
end Go.Proofs.YtclfghmgcioilaaGreat
