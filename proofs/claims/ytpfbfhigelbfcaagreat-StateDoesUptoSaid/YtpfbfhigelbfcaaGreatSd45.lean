/- slices.SortFunc, laid at the row of digests -/
import Derived.Test.YtpfbfhigelbfcaaGreatSd44
import Derived.Shelf.SlSortCmp.NoneTotal
set_option linter.unusedSimpArgs false
set_option linter.unusedVariables false
namespace Go.Proofs.YtpfbfhigelbfcaaGreat
open Go.RowKit Go.Lib Go.Shelf
def sortD_ren : Go.Shelf.Ren := ⟨fun | 6 => 142 | 15 => 128 | 14 => 164 | 28 => 159 | 29 => 160 | 20 => 175 | 21 => 176 | 22 => 177 | 23 => 178 | 24 => 179 | 25 => 180 | 26 => 181 | 27 => 182 | 46 => 186 | 47 => 170 | 48 => 171 | 49 => 187 | 50 => 188 | 57 => 189 | n => n,
 fun | 22 => 74 | 24 => 35 | 25 => 184 | 3 => 3 | 39 => 177 | 0 => 0 | 53 => 196 | 55 => 22 | 4 => 4 | 46 => 189 | 45 => 188 | 50 => 103 | 5 => 5 | 9 => 9 | 66 => 203 | 70 => 207 | 76 => 214 | 77 => 70 | n => n,
 fun | n => n⟩
theorem sortD : Go.Proofs.SlLaysF0.n6 Tryz.prog sortD_ren := {
 mixed := by kernel_rfl,
 f6 := ⟨Tryz.f142.name, by decide, Tryz.func142.trans (congrArg some (by kernel_rfl))⟩,
 f14 := ⟨Tryz.f164.name, by decide, Tryz.func164.trans (congrArg some (by kernel_rfl))⟩,
 f15 := Tryz.func128.trans (congrArg some (by kernel_rfl)),
 f20 := ⟨Tryz.f175.name, by decide, Tryz.func175.trans (congrArg some (by kernel_rfl))⟩,
 f21 := ⟨Tryz.f176.name, by decide, Tryz.func176.trans (congrArg some (by kernel_rfl))⟩,
 f22 := ⟨Tryz.f177.name, by decide, Tryz.func177.trans (congrArg some (by kernel_rfl))⟩,
 f23 := ⟨Tryz.f178.name, by decide, Tryz.func178.trans (congrArg some (by kernel_rfl))⟩,
 f24 := ⟨Tryz.f179.name, by decide, Tryz.func179.trans (congrArg some (by kernel_rfl))⟩,
 f25 := ⟨Tryz.f180.name, by decide, Tryz.func180.trans (congrArg some (by kernel_rfl))⟩,
 f26 := ⟨Tryz.f181.name, by decide, Tryz.func181.trans (congrArg some (by kernel_rfl))⟩,
 f27 := ⟨Tryz.f182.name, by decide, Tryz.func182.trans (congrArg some (by kernel_rfl))⟩,
 f28 := Tryz.func159.trans (congrArg some (by kernel_rfl)),
 f29 := Tryz.func160.trans (congrArg some (by kernel_rfl)),
 f46 := ⟨Tryz.f186.name, by decide, Tryz.func186.trans (congrArg some (by kernel_rfl))⟩,
 f47 := Tryz.func170.trans (congrArg some (by kernel_rfl)),
 f48 := Tryz.func171.trans (congrArg some (by kernel_rfl)),
 f49 := ⟨Tryz.f187.name, by decide, Tryz.func187.trans (congrArg some (by kernel_rfl))⟩,
 f50 := ⟨Tryz.f188.name, by decide, Tryz.func188.trans (congrArg some (by kernel_rfl))⟩,
 f57 := ⟨Tryz.f189.name, by decide, Tryz.func189.trans (congrArg some (by kernel_rfl))⟩,
 t0 := Tryz.underlying0,
 a0 := Tryz.isAgg0,
 z0 := Tryz.sizeOf0,
 v0 := Tryz.zeroValue0,
 t3 := Tryz.underlying3,
 a3 := Tryz.isAgg3,
 z3 := Tryz.sizeOf3,
 v3 := Tryz.zeroValue3,
 t4 := Tryz.underlying4,
 a4 := Tryz.isAgg4,
 z4 := Tryz.sizeOf4,
 v4 := Tryz.zeroValue4,
 t5 := Tryz.underlying5,
 a5 := Tryz.isAgg5,
 z5 := Tryz.sizeOf5,
 v5 := Tryz.zeroValue5,
 t9 := Tryz.underlying9,
 a9 := Tryz.isAgg9,
 z9 := Tryz.sizeOf9,
 v9 := Tryz.zeroValue9,
 t22 := Tryz.underlying74,
 a22 := Tryz.isAgg74,
 z22 := Tryz.sizeOf74,
 v22 := Tryz.zeroValue74,
 t25 := Tryz.underlying184,
 a25 := Tryz.isAgg184,
 z25 := Tryz.sizeOf184,
 v25 := Tryz.zeroValue184,
 t39 := Tryz.underlying177,
 a39 := Tryz.isAgg177,
 z39 := Tryz.sizeOf177,
 v39 := Tryz.zeroValue177,
 t45 := Tryz.underlying188,
 a45 := Tryz.isAgg188,
 z45 := Tryz.sizeOf188,
 v45 := Tryz.zeroValue188,
 t46 := Tryz.underlying189,
 a46 := Tryz.isAgg189,
 z46 := Tryz.sizeOf189,
 v46 := Tryz.zeroValue189,
 t50 := Tryz.underlying103,
 a50 := Tryz.isAgg103,
 z50 := Tryz.sizeOf103,
 v50 := Tryz.zeroValue103,
 t53 := Tryz.underlying196,
 a53 := Tryz.isAgg196,
 z53 := Tryz.sizeOf196,
 v53 := Tryz.zeroValue196,
 t55 := Tryz.underlying22,
 a55 := Tryz.isAgg22,
 z55 := Tryz.sizeOf22,
 v55 := Tryz.zeroValue22,
 t66 := Tryz.underlying203,
 a66 := Tryz.isAgg203,
 z66 := Tryz.sizeOf203,
 v66 := Tryz.zeroValue203,
 t70 := Tryz.underlying207,
 a70 := Tryz.isAgg207,
 z70 := Tryz.sizeOf207,
 v70 := Tryz.zeroValue207,
 t76 := Tryz.underlying214,
 a76 := Tryz.isAgg214,
 z76 := Tryz.sizeOf214,
 v76 := Tryz.zeroValue214,
 t77 := Tryz.underlying70,
 a77 := Tryz.isAgg70,
 z77 := Tryz.sizeOf70,
 v77 := Tryz.zeroValue70 }
abbrev Dg : Type := {d : List Int // dok d}
instance : Inhabited Dg := ⟨⟨dzero, dok_zero⟩⟩
def encD (x : Dg) : List Value := x.1.map (Value.int .u8)
def cfD (x y : Dg) : Int := dcmp x.1 y.1
theorem ltD (x y : Dg) : ltOf cfD x y = dlt x.1 y.1 := by
 unfold ltOf cfD dcmp
 cases h : dlt x.1 y.1
 ·rw [if_neg (by simp)]
  split <;> rfl
 ·rfl
theorem lenD (x : Dg) : (encD x).length = 32 := by rw [encD, List.length_map, x.2.1]
theorem oneD (x : Dg) : ∀ v ∈ encD x, v.oneCell' = true := by
 intro v hv
 obtain ⟨z, _, rfl⟩ := List.mem_map.1 hv
 rfl
theorem swoD : Go.Sort.SWO (ltOf cfD) where
 irrefl x := by rw [ltD, dlt_self]
 trans x y z h1 h2 := by rw [ltD] at *; exact dlt_trans h1 h2
 ntrans x y z h1 h2 := by
  rw [ltD] at *
  cases h : dlt x.1 z.1
  ·rfl
  ·cases h3 : dlt y.1 x.1
   ·have e := dlt_total (by rw [x.2.1, y.2.1]) h1 h3
    rw [e, h2] at h; cases h
   ·rw [dlt_trans h3 h] at h2; cases h2
theorem cmpLaysD (blk off size : Nat) (w : World) : CmpLays Tryz.prog 143 #[] encD 32 cfD blk off size w :=
 fun _ _ _ _ x y => cmp_grow x.1 y.1 _ x.2 y.2
theorem flat_cells (d : Array Dg) : (Go.Sort.flatK encD 32 d).toList = dcells (d.toList.map (·.1)) := by
 have hok : ∀ x ∈ d.toList.map (·.1), dok x := by
  intro x hx
  obtain ⟨y, _, rfl⟩ := List.mem_map.1 hx
  exact y.2
 have hln : (dcells (d.toList.map (·.1))).length = d.size * 32 := by rw [dcells_length hok, List.length_map, Array.length_toList]
 apply List.ext_getElem?
 intro t
 by_cases ht : t < d.size * 32
 ·have hj : t / 32 < d.size := by omega
  have hk : t % 32 < 32 := by omega
  have e1 := dcells_get hok (t / 32) (t % 32) (by rw [List.length_map, Array.length_toList]; exact hj) hk
  rw [show t / 32 * 32 + t % 32 = t by omega] at e1
  rw [e1, Array.getElem?_toList, getElem?_pos _ t (by rw [Go.Sort.size_flatK]; exact ht), ← getElem!_pos _ t (by rw [Go.Sort.size_flatK]; exact ht), Go.Sort.get_flatK encD 32 d t ht]
  have e2 : d[t / 32]! = d[t / 32]'hj := getElem!_pos d _ hj
  rw [e2]
  have e3 : (d.toList.map (·.1)).getD (t / 32) [] = (d[t / 32]'hj).1 := by
   rw [List.getD_eq_getElem?_getD, List.getElem?_map, Array.getElem?_toList, getElem?_pos d _ hj]; rfl
  rw [e3]
  have hl := lenD (d[t / 32]'hj)
  rw [getElem!_pos (encD _) _ (by rw [hl]; exact hk)]
  have h5 : t % 32 < (d[t / 32]'hj).1.length := by rw [(d[t / 32]'hj).2.1]; exact hk
  simp [encD, List.getD_eq_getElem?_getD, h5]
 ·rw [List.getElem?_eq_none (by rw [Array.length_toList, Go.Sort.size_flatK]; omega), List.getElem?_eq_none (by rw [hln]; omega)]
theorem attach_val (L : List (List Int)) (h : ∀ d ∈ L, dok d) : (L.attachWith dok h).toArray.toList.map (·.1) = L := by
 simp
theorem holdsD {w : World} {B g n c : Nat} {L : List (List Int)} (h : Od w B (.slice (some ⟨g, 0, none⟩) n c) L) : Go.Sort.HoldsK encD 32 w g 0 (L.attachWith dok h.1).toArray := by
 obtain ⟨hn, hB, hc, hm, cur, hg, hs, ht⟩ := h.block
 have hf := flat_cells (L.attachWith dok h.1).toArray
 rw [attach_val] at hf
 intro t htt
 refine ⟨?_, by simp [World.frozen?, hg]⟩
 have h1 : (Go.Sort.flatK encD 32 (L.attachWith dok h.1).toArray).size = n * 32 := by rw [Go.Sort.size_flatK]; simp [hn]
 have h2 : cur[t]? = (Go.Sort.flatK encD 32 (L.attachWith dok h.1).toArray)[t]? := by
  rw [← Array.getElem?_toList, ← Array.getElem?_toList, hf, ← ht, List.getElem?_take_of_lt (by omega)]
 rw [show (0 + t) = t by omega]
 have h3 : w.cell? ⟨g, t, none⟩ = cur[t]? := by simp [World.cell?, hg]
 rw [h3, h2, getElem?_pos _ t htt, getElem!_pos _ t htt]
 rfl
theorem take_put (F cur : Array Value) (h : F.size ≤ cur.size) : (Go.Sort.putCells id 0 F cur).toList.take F.size = F.toList := by
 apply List.ext_getElem?
 intro j
 by_cases hj : j < F.size
 ·rw [List.getElem?_take_of_lt hj, Array.getElem?_toList, Array.getElem?_toList]
  simp [Go.Sort.putCells, hj, show j < cur.size by omega]
 ·rw [List.getElem?_take_eq_none (by omega), List.getElem?_eq_none (by simp; omega)]
set_option maxRecDepth 100000 in
theorem sort_any (B g n c : Nat) (L : List (List Int)) (w : World) (h : Od w B (.slice (some ⟨g, 0, none⟩) n c) L) (hB : B ≤ w.heap.size) (hn : n ≤ 1048576) :
 Calls Tryz.prog 142 #[.slice (some ⟨g, 0, none⟩) n c, .func (.func 143) #[] #[]] w fun e w' => e = .returned (.tuple #[]) ∧
  ∃ L', Od w' B (.slice (some ⟨g, 0, none⟩) n c) L' ∧ dsorted L' ∧ (∀ x, x ∈ L' ↔ x ∈ L) ∧ Below B w w' := by
 obtain ⟨hnl, hBg, hc, hm, cur, hg, hs, ht⟩ := h.block
 have eg : ∀ args w, (callFunc 143 args).run Tryz.prog w = .ok (.enter 143 args) w := enters_of Tryz.func143 (by kernel_rfl) rfl
 have hsz : (L.attachWith dok h.1).toArray.size = n := by simp [hnl]
 have hcon := AnyQ.slices_SortFunc sortD 32 Tryz.isAgg35 Tryz.sizeOf35 encD lenD oneD cfD swoD 143 #[] g 0 c (L.attachWith dok h.1).toArray w eg (cmpLaysD g 0 _ w) (holdsD h) (Array.getElem?_eq_some_iff.1 hg).1 (by rw [hsz]; omega)
 change Calls Tryz.prog 142 _ _ _ at hcon
 rw [hsz] at hcon
 refine hcon.mono ?_
 rintro e w' ⟨rfl, d', m, os, ⟨hp1, _, hp2⟩, hso, rfl⟩
 rw [hsz] at hp1
 refine ⟨rfl, d'.toList.map (·.1), ?_, ?_, fun x => ?_, ?_⟩
 ·have hgl : g < w.heap.size := (Array.getElem?_eq_some_iff.1 hg).1
  have hgw : (sortWorldK encD 32 w g 0 m d' os).heap[g]? = some (.cells (Go.Sort.putCells id 0 (Go.Sort.flatK encD 32 d') cur) 35 (0, 0)) := by
   unfold sortWorldK
   rw [Go.Sort.heap_grow_old _ _ (by simpa [Go.Sort.putRowK] using hgl)]
   simp [Go.Sort.putRowK, Go.Sort.putRow, Go.Sort.mapBlock, Go.Sort.ahead, Array.getElem?_modify, hg, Go.Sort.onCells]
  have hl : (d'.toList.map (·.1)).length = n := by rw [List.length_map, Array.length_toList, hp1]
  have hF : (Go.Sort.flatK encD 32 d').size = n * 32 := by rw [Go.Sort.size_flatK, hp1]
  have := Od.mk (w := sortWorldK encD 32 w g 0 m d' os) (B := B) (g := g) (c := c) (L := d'.toList.map (·.1)) (fun x hx => by
   obtain ⟨y, _, rfl⟩ := List.mem_map.1 hx
   exact y.2) hBg (by rw [hl]; exact hc) hm hgw (by simpa [Go.Sort.putCells] using hs) (by rw [hl, ← hF, take_put _ _ (by rw [hF]; omega), flat_cells])
  rwa [hl] at this
 ·intro i j hij hj
  rw [List.length_map, Array.length_toList, hp1] at hj
  have := hso i j (Nat.zero_le _) hij hj
  rw [ltD] at this
  have e : ∀ q, q < n → (d'.toList.map (·.1)).getD q [] = (d'[q]!).1 := fun q hq => by
   rw [List.getD_eq_getElem?_getD, List.getElem?_map, Array.getElem?_toList, getElem?_pos d' q (by omega), getElem!_pos d' q (by omega)]; rfl
  rw [e j hj, e i (by omega)]
  exact this
 ·have h1 : d'.extract 0 n = d' := by rw [← hp1]; simp
  have h3 : (L.attachWith dok h.1).toArray.extract 0 n = (L.attachWith dok h.1).toArray := by subst hnl; simp; exact List.take_of_length_le (by simp)
  rw [h1, h3] at hp2
  have h2 := (hp2.map (·.1)).mem_iff (a := x)
  rw [h2, attach_val]
 ·have hgl : g < w.heap.size := (Array.getElem?_eq_some_iff.1 hg).1
  refine (Below.refl _ _).grown (row := some g) ⟨rfl, rfl, rfl, ?_, fun k hk hne => ?_⟩ hB (fun k hk => by injection hk with hk; omega)
  ·unfold sortWorldK
   simp [Go.Sort.grow, Go.Sort.putRowK, Go.Sort.putRow, Go.Sort.mapBlock, Go.Sort.ahead]
  ·unfold sortWorldK
   rw [Go.Sort.heap_grow_old _ _ (by simpa [Go.Sort.putRowK] using hk)]
   have : g ≠ k := fun e => hne (by rw [e])
   simp [Go.Sort.putRowK, Go.Sort.putRow, Go.Sort.mapBlock, Go.Sort.ahead, Array.getElem?_modify, this]
end Go.Proofs.YtpfbfhigelbfcaaGreat

