/- slices.SortFunc, laid at the row of digests -/
import Derived.Test.YtclfghmgcioilaaIx25
import Derived.Shelf.SlSortCmp.NoneTotal
set_option linter.unusedSimpArgs false
set_option linter.unusedVariables false
namespace Go.Proofs.Ytclfghmgcioilaa
set_option linter.unusedVariables false
open Go.RowKit Go.Lib Go.Shelf

def sortD_ren : Go.Shelf.Ren := ⟨fun | 6 => 40 | 15 => 49 | 14 => 48 | 28 => 65 | 29 => 66 | 20 => 57 | 21 => 58 | 22 => 59 | 23 => 60 | 24 => 61 | 25 => 62 | 26 => 63 | 27 => 64 | 46 => 72 | 47 => 73 | 48 => 74 | 49 => 75 | 50 => 76 | 57 => 86 | n => n,
  fun | 22 => 60 | 24 => 32 | 25 => 87 | 3 => 3 | 39 => 91 | 0 => 0 | 53 => 109 | 55 => 30 | 4 => 4 | 46 => 103 | 45 => 102 | 50 => 71 | 5 => 5 | 9 => 9 | 66 => 113 | 70 => 117 | 76 => 124 | 77 => 46 | n => n,
  fun | n => n⟩
theorem sortD : Go.Proofs.SlLaysF0.n6 Try.prog sortD_ren := {
  mixed := by kernel_rfl,
  f6 := ⟨Try.f40.name, by decide, Try.func40.trans (congrArg some (by kernel_rfl))⟩,
  f14 := ⟨Try.f48.name, by decide, Try.func48.trans (congrArg some (by kernel_rfl))⟩,
  f15 := Try.func49.trans (congrArg some (by kernel_rfl)),
  f20 := ⟨Try.f57.name, by decide, Try.func57.trans (congrArg some (by kernel_rfl))⟩,
  f21 := ⟨Try.f58.name, by decide, Try.func58.trans (congrArg some (by kernel_rfl))⟩,
  f22 := ⟨Try.f59.name, by decide, Try.func59.trans (congrArg some (by kernel_rfl))⟩,
  f23 := ⟨Try.f60.name, by decide, Try.func60.trans (congrArg some (by kernel_rfl))⟩,
  f24 := ⟨Try.f61.name, by decide, Try.func61.trans (congrArg some (by kernel_rfl))⟩,
  f25 := ⟨Try.f62.name, by decide, Try.func62.trans (congrArg some (by kernel_rfl))⟩,
  f26 := ⟨Try.f63.name, by decide, Try.func63.trans (congrArg some (by kernel_rfl))⟩,
  f27 := ⟨Try.f64.name, by decide, Try.func64.trans (congrArg some (by kernel_rfl))⟩,
  f28 := Try.func65.trans (congrArg some (by kernel_rfl)),
  f29 := Try.func66.trans (congrArg some (by kernel_rfl)),
  f46 := ⟨Try.f72.name, by decide, Try.func72.trans (congrArg some (by kernel_rfl))⟩,
  f47 := Try.func73.trans (congrArg some (by kernel_rfl)),
  f48 := Try.func74.trans (congrArg some (by kernel_rfl)),
  f49 := ⟨Try.f75.name, by decide, Try.func75.trans (congrArg some (by kernel_rfl))⟩,
  f50 := ⟨Try.f76.name, by decide, Try.func76.trans (congrArg some (by kernel_rfl))⟩,
  f57 := ⟨Try.f86.name, by decide, Try.func86.trans (congrArg some (by kernel_rfl))⟩,
  t0 := Try.underlying0,
  a0 := Try.isAgg0,
  z0 := Try.sizeOf0,
  v0 := Try.zeroValue0,
  t3 := Try.underlying3,
  a3 := Try.isAgg3,
  z3 := Try.sizeOf3,
  v3 := Try.zeroValue3,
  t4 := Try.underlying4,
  a4 := Try.isAgg4,
  z4 := Try.sizeOf4,
  v4 := Try.zeroValue4,
  t5 := Try.underlying5,
  a5 := Try.isAgg5,
  z5 := Try.sizeOf5,
  v5 := Try.zeroValue5,
  t9 := Try.underlying9,
  a9 := Try.isAgg9,
  z9 := Try.sizeOf9,
  v9 := Try.zeroValue9,
  t22 := Try.underlying60,
  a22 := Try.isAgg60,
  z22 := Try.sizeOf60,
  v22 := Try.zeroValue60,
  t25 := Try.underlying87,
  a25 := Try.isAgg87,
  z25 := Try.sizeOf87,
  v25 := Try.zeroValue87,
  t39 := Try.underlying91,
  a39 := Try.isAgg91,
  z39 := Try.sizeOf91,
  v39 := Try.zeroValue91,
  t45 := Try.underlying102,
  a45 := Try.isAgg102,
  z45 := Try.sizeOf102,
  v45 := Try.zeroValue102,
  t46 := Try.underlying103,
  a46 := Try.isAgg103,
  z46 := Try.sizeOf103,
  v46 := Try.zeroValue103,
  t50 := Try.underlying71,
  a50 := Try.isAgg71,
  z50 := Try.sizeOf71,
  v50 := Try.zeroValue71,
  t53 := Try.underlying109,
  a53 := Try.isAgg109,
  z53 := Try.sizeOf109,
  v53 := Try.zeroValue109,
  t55 := Try.underlying30,
  a55 := Try.isAgg30,
  z55 := Try.sizeOf30,
  v55 := Try.zeroValue30,
  t66 := Try.underlying113,
  a66 := Try.isAgg113,
  z66 := Try.sizeOf113,
  v66 := Try.zeroValue113,
  t70 := Try.underlying117,
  a70 := Try.isAgg117,
  z70 := Try.sizeOf117,
  v70 := Try.zeroValue117,
  t76 := Try.underlying124,
  a76 := Try.isAgg124,
  z76 := Try.sizeOf124,
  v76 := Try.zeroValue124,
  t77 := Try.underlying46,
  a77 := Try.isAgg46,
  z77 := Try.sizeOf46,
  v77 := Try.zeroValue46 }

abbrev Dg : Type := {d : List Int // dok d}
instance : Inhabited Dg := ⟨⟨dzero, dok_zero⟩⟩
def encD (x : Dg) : List Value := x.1.map (Value.int .u8)
def cfD (x y : Dg) : Int := dcmp x.1 y.1
theorem ltD (x y : Dg) : ltOf cfD x y = dlt x.1 y.1 := by
  unfold ltOf cfD dcmp
  cases h : dlt x.1 y.1
  · rw [if_neg (by simp)]
    split <;> rfl
  · rfl
theorem lenD (x : Dg) : (encD x).length = 32 := by rw [encD, List.length_map, x.2.1]
theorem oneD (x : Dg) : ∀ v ∈ encD x, v.oneCell' = true := by
  intro v hv
  obtain ⟨z, _, rfl⟩ := List.mem_map.1 hv
  rfl
theorem swoD : Go.Sort.SWO (ltOf cfD) where
  irrefl x := by rw [ltD, dlt_self]
  trans x y z h1 h2 := by rw [ltD] at *; exact dlt_trans h1 h2
  ntrans x y z h1 h2 := by
    rw [ltD] at *
    cases h : dlt x.1 z.1
    · rfl
    · cases h3 : dlt y.1 x.1
      · have e := dlt_total (by rw [x.2.1, y.2.1]) h1 h3
        rw [e, h2] at h; cases h
      · rw [dlt_trans h3 h] at h2; cases h2
theorem cmpLaysD (blk off size : Nat) (w : World) : CmpLays Try.prog 41 #[] encD 32 cfD blk off size w :=
  fun _ _ _ _ x y => cmp_grow x.1 y.1 _ x.2 y.2

theorem flat_cells (d : Array Dg) : (Go.Sort.flatK encD 32 d).toList = dcells (d.toList.map (·.1)) := by
  have hok : ∀ x ∈ d.toList.map (·.1), dok x := by
    intro x hx
    obtain ⟨y, _, rfl⟩ := List.mem_map.1 hx
    exact y.2
  have hln : (dcells (d.toList.map (·.1))).length = d.size * 32 := by rw [dcells_length hok, List.length_map, Array.length_toList]
  apply List.ext_getElem?
  intro t
  by_cases ht : t < d.size * 32
  · have hj : t / 32 < d.size := by omega
    have hk : t % 32 < 32 := by omega
    have e1 := dcells_get hok (t / 32) (t % 32) (by rw [List.length_map, Array.length_toList]; exact hj) hk
    rw [show t / 32 * 32 + t % 32 = t by omega] at e1
    rw [e1, Array.getElem?_toList, getElem?_pos _ t (by rw [Go.Sort.size_flatK]; exact ht), ← getElem!_pos _ t (by rw [Go.Sort.size_flatK]; exact ht), Go.Sort.get_flatK encD 32 d t ht]
    have e2 : d[t / 32]! = d[t / 32]'hj := getElem!_pos d _ hj
    rw [e2]
    have e3 : (d.toList.map (·.1)).getD (t / 32) [] = (d[t / 32]'hj).1 := by
      rw [List.getD_eq_getElem?_getD, List.getElem?_map, Array.getElem?_toList, getElem?_pos d _ hj]; rfl
    rw [e3]
    have hl := lenD (d[t / 32]'hj)
    rw [getElem!_pos (encD _) _ (by rw [hl]; exact hk)]
    have h5 : t % 32 < (d[t / 32]'hj).1.length := by rw [(d[t / 32]'hj).2.1]; exact hk
    simp [encD, List.getD_eq_getElem?_getD, h5]
  · rw [List.getElem?_eq_none (by rw [Array.length_toList, Go.Sort.size_flatK]; omega), List.getElem?_eq_none (by rw [hln]; omega)]

theorem attach_val (L : List (List Int)) (h : ∀ d ∈ L, dok d) : (L.attachWith dok h).toArray.toList.map (·.1) = L := by
  simp
theorem holdsD {w : World} {B g n c : Nat} {L : List (List Int)} (h : Od w B (.slice (some ⟨g, 0, none⟩) n c) L) : Go.Sort.HoldsK encD 32 w g 0 (L.attachWith dok h.1).toArray := by
  obtain ⟨hn, hB, hc, hm, cur, hg, hs, ht⟩ := h.block
  have hf := flat_cells (L.attachWith dok h.1).toArray
  rw [attach_val] at hf
  intro t htt
  refine ⟨?_, by simp [World.frozen?, hg]⟩
  have h1 : (Go.Sort.flatK encD 32 (L.attachWith dok h.1).toArray).size = n * 32 := by rw [Go.Sort.size_flatK]; simp [hn]
  have h2 : cur[t]? = (Go.Sort.flatK encD 32 (L.attachWith dok h.1).toArray)[t]? := by
    rw [← Array.getElem?_toList, ← Array.getElem?_toList, hf, ← ht, List.getElem?_take_of_lt (by omega)]
  rw [show (0 + t) = t by omega]
  have h3 : w.cell? ⟨g, t, none⟩ = cur[t]? := by simp [World.cell?, hg]
  rw [h3, h2, getElem?_pos _ t htt, getElem!_pos _ t htt]
  rfl
theorem take_put (F cur : Array Value) (h : F.size ≤ cur.size) : (Go.Sort.putCells id 0 F cur).toList.take F.size = F.toList := by
  apply List.ext_getElem?
  intro j
  by_cases hj : j < F.size
  · rw [List.getElem?_take_of_lt hj, Array.getElem?_toList, Array.getElem?_toList]
    simp [Go.Sort.putCells, hj, show j < cur.size by omega]
  · rw [List.getElem?_take_eq_none (by omega), List.getElem?_eq_none (by simp; omega)]

set_option maxRecDepth 100000 in
theorem sort_any (B g n c : Nat) (L : List (List Int)) (w : World) (h : Od w B (.slice (some ⟨g, 0, none⟩) n c) L) (hB : B ≤ w.heap.size) (hn : n ≤ 1048576) :
    Calls Try.prog 40 #[.slice (some ⟨g, 0, none⟩) n c, .func (.func 41) #[] #[]] w fun e w' => e = .returned (.tuple #[]) ∧
      ∃ L', Od w' B (.slice (some ⟨g, 0, none⟩) n c) L' ∧ dsorted L' ∧ (∀ x, x ∈ L' ↔ x ∈ L) ∧ Below B w w' := by
  obtain ⟨hnl, hBg, hc, hm, cur, hg, hs, ht⟩ := h.block
  have eg : ∀ args w, (callFunc 41 args).run Try.prog w = .ok (.enter 41 args) w := enters_of Try.func41 (by kernel_rfl) rfl
  have hsz : (L.attachWith dok h.1).toArray.size = n := by simp [hnl]
  have hcon := AnyQ.slices_SortFunc sortD 32 Try.isAgg32 Try.sizeOf32 encD lenD oneD cfD swoD 41 #[] g 0 c (L.attachWith dok h.1).toArray w eg (cmpLaysD g 0 _ w) (holdsD h) (Array.getElem?_eq_some_iff.1 hg).1 (by rw [hsz]; omega)
  change Calls Try.prog 40 _ _ _ at hcon
  rw [hsz] at hcon
  refine hcon.mono ?_
  rintro e w' ⟨rfl, d', m, os, ⟨hp1, _, hp2⟩, hso, rfl⟩
  rw [hsz] at hp1
  refine ⟨rfl, d'.toList.map (·.1), ?_, ?_, fun x => ?_, ?_⟩
  · have hgl : g < w.heap.size := (Array.getElem?_eq_some_iff.1 hg).1
    have hgw : (sortWorldK encD 32 w g 0 m d' os).heap[g]? = some (.cells (Go.Sort.putCells id 0 (Go.Sort.flatK encD 32 d') cur) 32 (0, 0)) := by
      unfold sortWorldK
      rw [Go.Sort.heap_grow_old _ _ (by simpa [Go.Sort.putRowK] using hgl)]
      simp [Go.Sort.putRowK, Go.Sort.putRow, Go.Sort.mapBlock, Go.Sort.ahead, Array.getElem?_modify, hg, Go.Sort.onCells]
    have hl : (d'.toList.map (·.1)).length = n := by rw [List.length_map, Array.length_toList, hp1]
    have hF : (Go.Sort.flatK encD 32 d').size = n * 32 := by rw [Go.Sort.size_flatK, hp1]
    have := Od.mk (w := sortWorldK encD 32 w g 0 m d' os) (B := B) (g := g) (c := c) (L := d'.toList.map (·.1)) (fun x hx => by
      obtain ⟨y, _, rfl⟩ := List.mem_map.1 hx
      exact y.2) hBg (by rw [hl]; exact hc) hm hgw (by simpa [Go.Sort.putCells] using hs) (by rw [hl, ← hF, take_put _ _ (by rw [hF]; omega), flat_cells])
    rwa [hl] at this
  · intro i j hij hj
    rw [List.length_map, Array.length_toList, hp1] at hj
    have := hso i j (Nat.zero_le _) hij hj
    rw [ltD] at this
    have e : ∀ q, q < n → (d'.toList.map (·.1)).getD q [] = (d'[q]!).1 := fun q hq => by
      rw [List.getD_eq_getElem?_getD, List.getElem?_map, Array.getElem?_toList, getElem?_pos d' q (by omega), getElem!_pos d' q (by omega)]; rfl
    rw [e j hj, e i (by omega)]
    exact this
  · have h1 : d'.extract 0 n = d' := by rw [← hp1]; simp
    have h3 : (L.attachWith dok h.1).toArray.extract 0 n = (L.attachWith dok h.1).toArray := by subst hnl; simp; exact List.take_of_length_le (by simp)
    rw [h1, h3] at hp2
    have h2 := (hp2.map (·.1)).mem_iff (a := x)
    rw [h2, attach_val]
  · have hgl : g < w.heap.size := (Array.getElem?_eq_some_iff.1 hg).1
    refine (Below.refl _ _).grown (row := some g) ⟨rfl, rfl, rfl, ?_, fun k hk hne => ?_⟩ hB (fun k hk => by injection hk with hk; omega)
    · unfold sortWorldK
      simp [Go.Sort.grow, Go.Sort.putRowK, Go.Sort.putRow, Go.Sort.mapBlock, Go.Sort.ahead]
    · unfold sortWorldK
      rw [Go.Sort.heap_grow_old _ _ (by simpa [Go.Sort.putRowK] using hk)]
      have : g ≠ k := fun e => hne (by rw [e])
      simp [Go.Sort.putRowK, Go.Sort.putRow, Go.Sort.mapBlock, Go.Sort.ahead, Array.getElem?_modify, this]
end Go.Proofs.Ytclfghmgcioilaa
