/- slices.SortFunc, laid at the row of digests. -/
import Derived.Test.YtlggbicjgddnaaaDoorDigS
import Derived.Shelf.SlSortCmp.NoneTotal
namespace Go.Proofs.YtlggbicjgddnaaaDoor
set_option linter.unusedVariables false
open Go.RowKit Go.Lib Go.Shelf

def sortD_ren : Go.Shelf.Ren := ⟨fun | 6 => 31 | 15 => 49 | 14 => 48 | 28 => 63 | 29 => 64 | 20 => 55 | 21 => 56 | 22 => 57 | 23 => 58 | 24 => 59 | 25 => 60 | 26 => 61 | 27 => 62 | 46 => 70 | 47 => 71 | 48 => 72 | 49 => 73 | 50 => 74 | 57 => 79 | n => n,
  fun | 22 => 37 | 24 => 24 | 25 => 34 | 3 => 3 | 39 => 60 | 0 => 0 | 53 => 66 | 55 => 86 | 4 => 4 | 46 => 90 | 45 => 89 | 50 => 56 | 5 => 5 | 9 => 9 | 66 => 102 | 70 => 106 | 76 => 110 | 77 => 111 | n => n,
  fun | n => n⟩
theorem sortD : Go.Proofs.SlLaysF0.n6 Tryd.prog sortD_ren := {
  mixed := by kernel_rfl,
  f6 := ⟨Tryd.f31.name, by decide, Tryd.func31.trans (congrArg some (by kernel_rfl))⟩,
  f14 := ⟨Tryd.f48.name, by decide, Tryd.func48.trans (congrArg some (by kernel_rfl))⟩,
  f15 := Tryd.func49.trans (congrArg some (by kernel_rfl)),
  f20 := ⟨Tryd.f55.name, by decide, Tryd.func55.trans (congrArg some (by kernel_rfl))⟩,
  f21 := ⟨Tryd.f56.name, by decide, Tryd.func56.trans (congrArg some (by kernel_rfl))⟩,
  f22 := ⟨Tryd.f57.name, by decide, Tryd.func57.trans (congrArg some (by kernel_rfl))⟩,
  f23 := ⟨Tryd.f58.name, by decide, Tryd.func58.trans (congrArg some (by kernel_rfl))⟩,
  f24 := ⟨Tryd.f59.name, by decide, Tryd.func59.trans (congrArg some (by kernel_rfl))⟩,
  f25 := ⟨Tryd.f60.name, by decide, Tryd.func60.trans (congrArg some (by kernel_rfl))⟩,
  f26 := ⟨Tryd.f61.name, by decide, Tryd.func61.trans (congrArg some (by kernel_rfl))⟩,
  f27 := ⟨Tryd.f62.name, by decide, Tryd.func62.trans (congrArg some (by kernel_rfl))⟩,
  f28 := Tryd.func63.trans (congrArg some (by kernel_rfl)),
  f29 := Tryd.func64.trans (congrArg some (by kernel_rfl)),
  f46 := ⟨Tryd.f70.name, by decide, Tryd.func70.trans (congrArg some (by kernel_rfl))⟩,
  f47 := Tryd.func71.trans (congrArg some (by kernel_rfl)),
  f48 := Tryd.func72.trans (congrArg some (by kernel_rfl)),
  f49 := ⟨Tryd.f73.name, by decide, Tryd.func73.trans (congrArg some (by kernel_rfl))⟩,
  f50 := ⟨Tryd.f74.name, by decide, Tryd.func74.trans (congrArg some (by kernel_rfl))⟩,
  f57 := ⟨Tryd.f79.name, by decide, Tryd.func79.trans (congrArg some (by kernel_rfl))⟩,
  t0 := Tryd.underlying0,
  a0 := Tryd.isAgg0,
  z0 := Tryd.sizeOf0,
  v0 := Tryd.zeroValue0,
  t3 := Tryd.underlying3,
  a3 := Tryd.isAgg3,
  z3 := Tryd.sizeOf3,
  v3 := Tryd.zeroValue3,
  t4 := Tryd.underlying4,
  a4 := Tryd.isAgg4,
  z4 := Tryd.sizeOf4,
  v4 := Tryd.zeroValue4,
  t5 := Tryd.underlying5,
  a5 := Tryd.isAgg5,
  z5 := Tryd.sizeOf5,
  v5 := Tryd.zeroValue5,
  t9 := Tryd.underlying9,
  a9 := Tryd.isAgg9,
  z9 := Tryd.sizeOf9,
  v9 := Tryd.zeroValue9,
  t22 := Tryd.underlying37,
  a22 := Tryd.isAgg37,
  z22 := Tryd.sizeOf37,
  v22 := Tryd.zeroValue37,
  t25 := Tryd.underlying34,
  a25 := Tryd.isAgg34,
  z25 := Tryd.sizeOf34,
  v25 := Tryd.zeroValue34,
  t39 := Tryd.underlying60,
  a39 := Tryd.isAgg60,
  z39 := Tryd.sizeOf60,
  v39 := Tryd.zeroValue60,
  t45 := Tryd.underlying89,
  a45 := Tryd.isAgg89,
  z45 := Tryd.sizeOf89,
  v45 := Tryd.zeroValue89,
  t46 := Tryd.underlying90,
  a46 := Tryd.isAgg90,
  z46 := Tryd.sizeOf90,
  v46 := Tryd.zeroValue90,
  t50 := Tryd.underlying56,
  a50 := Tryd.isAgg56,
  z50 := Tryd.sizeOf56,
  v50 := Tryd.zeroValue56,
  t53 := Tryd.underlying66,
  a53 := Tryd.isAgg66,
  z53 := Tryd.sizeOf66,
  v53 := Tryd.zeroValue66,
  t55 := Tryd.underlying86,
  a55 := Tryd.isAgg86,
  z55 := Tryd.sizeOf86,
  v55 := Tryd.zeroValue86,
  t66 := Tryd.underlying102,
  a66 := Tryd.isAgg102,
  z66 := Tryd.sizeOf102,
  v66 := Tryd.zeroValue102,
  t70 := Tryd.underlying106,
  a70 := Tryd.isAgg106,
  z70 := Tryd.sizeOf106,
  v70 := Tryd.zeroValue106,
  t76 := Tryd.underlying110,
  a76 := Tryd.isAgg110,
  z76 := Tryd.sizeOf110,
  v76 := Tryd.zeroValue110,
  t77 := Tryd.underlying111,
  a77 := Tryd.isAgg111,
  z77 := Tryd.sizeOf111,
  v77 := Tryd.zeroValue111 }

abbrev Dg : Type := {d : List Int // dok d}
instance : Inhabited Dg := ⟨⟨dzero, dok_zero⟩⟩
def encD (x : Dg) : List Value := x.1.map (Value.int .u8)
def cfD (x y : Dg) : Int := dcmp x.1 y.1
theorem ltD (x y : Dg) : ltOf cfD x y = dlt x.1 y.1 := by
  unfold ltOf cfD dcmp
  cases h : dlt x.1 y.1
  · rw [if_neg (by simp)]
    split <;> rfl
  · rfl
theorem lenD (x : Dg) : (encD x).length = 32 := by rw [encD, List.length_map, x.2.1]
theorem oneD (x : Dg) : ∀ v ∈ encD x, v.oneCell' = true := by
  intro v hv
  obtain ⟨z, _, rfl⟩ := List.mem_map.1 hv
  rfl
theorem swoD : Go.Sort.SWO (ltOf cfD) where
  irrefl x := by rw [ltD, dlt_self]
  trans x y z h1 h2 := by rw [ltD] at *; exact dlt_trans h1 h2
  ntrans x y z h1 h2 := by
    rw [ltD] at *
    cases h : dlt x.1 z.1
    · rfl
    · cases h3 : dlt y.1 x.1
      · have e := dlt_total (by rw [x.2.1, y.2.1]) h1 h3
        rw [e, h2] at h; cases h
      · rw [dlt_trans h3 h] at h2; cases h2
theorem cmpLaysD (blk off size : Nat) (w : World) : CmpLays Tryd.prog 14 #[] encD 32 cfD blk off size w :=
  fun _ _ _ _ x y => cmp_grow x.1 y.1 _ x.2 y.2

theorem flat_cells (d : Array Dg) : (Go.Sort.flatK encD 32 d).toList = dcells (d.toList.map (·.1)) := by
  have hok : ∀ x ∈ d.toList.map (·.1), dok x := by
    intro x hx
    obtain ⟨y, _, rfl⟩ := List.mem_map.1 hx
    exact y.2
  have hln : (dcells (d.toList.map (·.1))).length = d.size * 32 := by rw [dcells_length hok, List.length_map, Array.length_toList]
  apply List.ext_getElem?
  intro t
  by_cases ht : t < d.size * 32
  · have hj : t / 32 < d.size := by omega
    have hk : t % 32 < 32 := by omega
    have e1 := dcells_get hok (t / 32) (t % 32) (by rw [List.length_map, Array.length_toList]; exact hj) hk
    rw [show t / 32 * 32 + t % 32 = t by omega] at e1
    rw [e1, Array.getElem?_toList, getElem?_pos _ t (by rw [Go.Sort.size_flatK]; exact ht), ← getElem!_pos _ t (by rw [Go.Sort.size_flatK]; exact ht), Go.Sort.get_flatK encD 32 d t ht]
    have e2 : d[t / 32]! = d[t / 32]'hj := getElem!_pos d _ hj
    rw [e2]
    have e3 : (d.toList.map (·.1)).getD (t / 32) [] = (d[t / 32]'hj).1 := by
      rw [List.getD_eq_getElem?_getD, List.getElem?_map, Array.getElem?_toList, getElem?_pos d _ hj]; rfl
    rw [e3]
    have hl := lenD (d[t / 32]'hj)
    rw [getElem!_pos (encD _) _ (by rw [hl]; exact hk)]
    have h5 : t % 32 < (d[t / 32]'hj).1.length := by rw [(d[t / 32]'hj).2.1]; exact hk
    simp [encD, List.getD_eq_getElem?_getD, h5]
  · rw [List.getElem?_eq_none (by rw [Array.length_toList, Go.Sort.size_flatK]; omega), List.getElem?_eq_none (by rw [hln]; omega)]

theorem attach_val (L : List (List Int)) (h : ∀ d ∈ L, dok d) : (L.attachWith dok h).toArray.toList.map (·.1) = L := by
  simp
theorem holdsD {w : World} {B g n c : Nat} {L : List (List Int)} (h : Od w B (.slice (some ⟨g, 0, none⟩) n c) L) : Go.Sort.HoldsK encD 32 w g 0 (L.attachWith dok h.1).toArray := by
  obtain ⟨hn, hB, hc, hm, cur, hg, hs, ht⟩ := h.block
  have hf := flat_cells (L.attachWith dok h.1).toArray
  rw [attach_val] at hf
  intro t htt
  refine ⟨?_, by simp [World.frozen?, hg]⟩
  have h1 : (Go.Sort.flatK encD 32 (L.attachWith dok h.1).toArray).size = n * 32 := by rw [Go.Sort.size_flatK]; simp [hn]
  have h2 : cur[t]? = (Go.Sort.flatK encD 32 (L.attachWith dok h.1).toArray)[t]? := by
    rw [← Array.getElem?_toList, ← Array.getElem?_toList, hf, ← ht, List.getElem?_take_of_lt (by omega)]
  rw [show (0 + t) = t by omega]
  have h3 : w.cell? ⟨g, t, none⟩ = cur[t]? := by simp [World.cell?, hg]
  rw [h3, h2, getElem?_pos _ t htt, getElem!_pos _ t htt]
  rfl
theorem take_put (F cur : Array Value) (h : F.size ≤ cur.size) : (Go.Sort.putCells id 0 F cur).toList.take F.size = F.toList := by
  apply List.ext_getElem?
  intro j
  by_cases hj : j < F.size
  · rw [List.getElem?_take_of_lt hj, Array.getElem?_toList, Array.getElem?_toList]
    simp [Go.Sort.putCells, hj, show j < cur.size by omega]
  · rw [List.getElem?_take_eq_none (by omega), List.getElem?_eq_none (by simp; omega)]

set_option maxRecDepth 100000 in
theorem sort_any (B g n c : Nat) (L : List (List Int)) (w : World) (h : Od w B (.slice (some ⟨g, 0, none⟩) n c) L) (hB : B ≤ w.heap.size) (hn : n ≤ 1048576) :
    Calls Tryd.prog 31 #[.slice (some ⟨g, 0, none⟩) n c, .func (.func 14) #[] #[]] w fun e w' => e = .returned (.tuple #[]) ∧
      ∃ L', Od w' B (.slice (some ⟨g, 0, none⟩) n c) L' ∧ dsorted L' ∧ (∀ x, x ∈ L' ↔ x ∈ L) ∧ Below B w w' := by
  obtain ⟨hnl, hBg, hc, hm, cur, hg, hs, ht⟩ := h.block
  have eg : ∀ args w, (callFunc 14 args).run Tryd.prog w = .ok (.enter 14 args) w := enters_of Tryd.func14 (by kernel_rfl) rfl
  have hsz : (L.attachWith dok h.1).toArray.size = n := by simp [hnl]
  have hcon := AnyQ.slices_SortFunc sortD 32 Tryd.isAgg24 Tryd.sizeOf24 encD lenD oneD cfD swoD 14 #[] g 0 c (L.attachWith dok h.1).toArray w eg (cmpLaysD g 0 _ w) (holdsD h) (Array.getElem?_eq_some_iff.1 hg).1 (by rw [hsz]; omega)
  change Calls Tryd.prog 31 _ _ _ at hcon
  rw [hsz] at hcon
  refine hcon.mono ?_
  rintro e w' ⟨rfl, d', m, os, ⟨hp1, _, hp2⟩, hso, rfl⟩
  rw [hsz] at hp1
  refine ⟨rfl, d'.toList.map (·.1), ?_, ?_, fun x => ?_, ?_⟩
  · have hgl : g < w.heap.size := (Array.getElem?_eq_some_iff.1 hg).1
    have hgw : (sortWorldK encD 32 w g 0 m d' os).heap[g]? = some (.cells (Go.Sort.putCells id 0 (Go.Sort.flatK encD 32 d') cur) 24 (0, 0)) := by
      unfold sortWorldK
      rw [Go.Sort.heap_grow_old _ _ (by simpa [Go.Sort.putRowK] using hgl)]
      simp [Go.Sort.putRowK, Go.Sort.putRow, Go.Sort.mapBlock, Go.Sort.ahead, Array.getElem?_modify, hg, Go.Sort.onCells]
    have hl : (d'.toList.map (·.1)).length = n := by rw [List.length_map, Array.length_toList, hp1]
    have hF : (Go.Sort.flatK encD 32 d').size = n * 32 := by rw [Go.Sort.size_flatK, hp1]
    have := Od.mk (w := sortWorldK encD 32 w g 0 m d' os) (B := B) (g := g) (c := c) (L := d'.toList.map (·.1)) (fun x hx => by
      obtain ⟨y, _, rfl⟩ := List.mem_map.1 hx
      exact y.2) hBg (by rw [hl]; exact hc) hm hgw (by simpa [Go.Sort.putCells] using hs) (by rw [hl, ← hF, take_put _ _ (by rw [hF]; omega), flat_cells])
    rwa [hl] at this
  · intro i j hij hj
    rw [List.length_map, Array.length_toList, hp1] at hj
    have := hso i j (Nat.zero_le _) hij hj
    rw [ltD] at this
    have e : ∀ q, q < n → (d'.toList.map (·.1)).getD q [] = (d'[q]!).1 := fun q hq => by
      rw [List.getD_eq_getElem?_getD, List.getElem?_map, Array.getElem?_toList, getElem?_pos d' q (by omega), getElem!_pos d' q (by omega)]; rfl
    rw [e j hj, e i (by omega)]
    exact this
  · have h1 : d'.extract 0 n = d' := by rw [← hp1]; simp
    have h3 : (L.attachWith dok h.1).toArray.extract 0 n = (L.attachWith dok h.1).toArray := by subst hnl; simp; exact List.take_of_length_le (by simp)
    rw [h1, h3] at hp2
    have h2 := (hp2.map (·.1)).mem_iff (a := x)
    rw [h2, attach_val]
  · have hgl : g < w.heap.size := (Array.getElem?_eq_some_iff.1 hg).1
    refine (Below.refl _ _).grown (row := some g) ⟨rfl, rfl, rfl, ?_, fun k hk hne => ?_⟩ hB (fun k hk => by injection hk with hk; omega)
    · unfold sortWorldK
      simp [Go.Sort.grow, Go.Sort.putRowK, Go.Sort.putRow, Go.Sort.mapBlock, Go.Sort.ahead]
    · unfold sortWorldK
      rw [Go.Sort.heap_grow_old _ _ (by simpa [Go.Sort.putRowK] using hk)]
      have : g ≠ k := fun e => hne (by rw [e])
      simp [Go.Sort.putRowK, Go.Sort.putRow, Go.Sort.mapBlock, Go.Sort.ahead, Array.getElem?_modify, this]
end Go.Proofs.YtlggbicjgddnaaaDoor
