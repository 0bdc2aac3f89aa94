/- slices.SortStableFunc at rows of words: what its walks want of the program, over any program that has these functions at these numbers (so that a word's cells stay one letter) -/
import Derived.Test.YtpfbfhigelbfcaaGreatSd21
import Derived.Test.YtpfbfhigelbfcaaGreatChecked
import Derived.Shelf.SlSortCmp.InsertionK
set_option linter.unusedSimpArgs false
set_option linter.unusedVariables false
namespace Go.Proofs.YtpfbfhigelbfcaaGreat
open Go.Shelf Go.RowKit Go.Lib Go.Sort
def stb_ren : Go.Shelf.Ren := ⟨fun | 20 => 124 | n => n,
 fun | 22 => 50 | 24 => 39 | 25 => 112 | 3 => 3 | 0 => 0 | 4 => 4 | n => n,
 fun | n => n⟩
structure StbLay (P : Program) (k : Nat) : Prop where
 ins : Go.Proofs.SlLaysF0.n20 P stb_ren
 fT : P.funcs[57]? = some Tryz.f57
 fB : P.funcs[95]? = some Tryz.f95
 fM : P.funcs[125]? = some Tryz.f125
 fR : P.funcs[149]? = some Tryz.f149
 fS : P.funcs[168]? = some Tryz.f168
 aE : ∀ w, (isAgg 39).run P w = .ok true w
 zE : ∀ w, (Go.sizeOf 39).run P w = .ok k w
 tU : P.underlying 177 = some (TypeDesc.int IntKind.u64)
 aU : ∀ w, (isAgg 177).run P w = .ok false w
 zU : ∀ w, (Go.sizeOf 177).run P w = .ok 1 w
 vU : ∀ w, (zeroValue 177).run P w = .ok (Value.int IntKind.u64 0) w
theorem stbL : StbLay Tryz.prog 39 := {
 ins := {
  mixed := by kernel_rfl,
  f20 := ⟨Tryz.f124.name, by decide, Tryz.func124.trans (congrArg some (by kernel_rfl))⟩,
  t0 := Tryz.underlying0, a0 := Tryz.isAgg0, z0 := Tryz.sizeOf0, v0 := Tryz.zeroValue0,
  t3 := Tryz.underlying3, a3 := Tryz.isAgg3, z3 := Tryz.sizeOf3, v3 := Tryz.zeroValue3,
  t4 := Tryz.underlying4, a4 := Tryz.isAgg4, z4 := Tryz.sizeOf4, v4 := Tryz.zeroValue4,
  t22 := Tryz.underlying50, a22 := Tryz.isAgg50, z22 := Tryz.sizeOf50, v22 := Tryz.zeroValue50,
  t25 := Tryz.underlying112, a25 := Tryz.isAgg112, z25 := Tryz.sizeOf112, v25 := Tryz.zeroValue112 },
 fT := Tryz.func57,
 fB := Tryz.func95,
 fM := Tryz.func125,
 fR := Tryz.func149,
 fS := Tryz.func168,
 aE := Tryz.isAgg39, zE := Tryz.sizeOf39,
 tU := Tryz.underlying177, aU := Tryz.isAgg177, zU := Tryz.sizeOf177, vU := Tryz.zeroValue177 }
/-- a row in block blk of world w, and how its elements are compared -/
structure StbEnv {α : Type} [Inhabited α] (P : Program) (k : Nat) (enc : α → List Value) (key : α → Int) (cf : α → α → Int) (g : Nat) (cb : Array Value) (blk off size : Nat) (w : World) : Prop where
 hk : ∀ x, (enc x).length = k
 h1 : ∀ x, ∀ v ∈ enc x, v.oneCell' = true
 eg : ∀ args w, (callFunc g args).run P w = .ok (.enter g args) w
 hcmp : CmpLays P g cb enc k cf blk off size w
 hH : ∃ d0 : Array α, d0.size = size ∧ HoldsK enc k w blk off d0
 hblk : blk < w.heap.size
 hsz : size < 4611686018427387904
 hlt : ∀ x y, ltOf cf x y = decide (key x < key y)
section
variable {α : Type} [Inhabited α] {P : Program} {k : Nat} {enc : α → List Value} {key : α → Int} {cf : α → α → Int} {g : Nat} {cb : Array Value} {blk off size : Nat} {w : World}
/-- in any world of the sort's the row lies -/
theorem StbEnv.holds (E : StbEnv P k enc key cf g cb blk off size w) (m : Nat) (d : Array α) (os : Array Obj) (hd : d.size = size) : HoldsK enc k (sortWorldK enc k w blk off m d os) blk off d := by
 obtain ⟨d0, h0, hH⟩ := E.hH
 exact holdsK_sortWorldK_c enc k w blk off d0 d m os hH E.hblk (by omega)
theorem StbEnv.lt (E : StbEnv P k enc key cf g cb blk off size w) (m : Nat) (d : Array α) (os : Array Obj) : blk < (sortWorldK enc k w blk off m d os).heap.size := Nat.lt_of_lt_of_le E.hblk (size_sortWorldK_c enc k w blk off m d os)
theorem StbEnv.again (E : StbEnv P k enc key cf g cb blk off size w) (m : Nat) (d : Array α) (os : Array Obj) (hd : d.size = size) (m2 : Nat) (d2 : Array α) (os2 : Array Obj) (hd2 : d2.size = size) :
 sortWorldK enc k (sortWorldK enc k w blk off m d os) blk off m2 d2 os2 = sortWorldK enc k w blk off (m + m2) d2 (os ++ os2) := by
 unfold sortWorldK
 exact grow_step_growK enc k w os os2 m m2 blk off d d2 E.hblk (by omega)
theorem StbEnv.step (E : StbEnv P k enc key cf g cb blk off size w) (m : Nat) (d : Array α) (os : Array Obj) (hd : d.size = size) : StbEnv P k enc key cf g cb blk off size (sortWorldK enc k w blk off m d os) where
 hk := E.hk
 h1 := E.h1
 eg := E.eg
 hcmp m2 os2 dk hdk x y := by
  rw [E.again m d os hd m2 dk os2 hdk]
  exact E.hcmp _ _ dk hdk x y
 hH := ⟨d, hd, E.holds m d os hd⟩
 hblk := E.lt m d os
 hsz := E.hsz
 hlt := E.hlt
/-- insertion sort of a part -/
theorem stb_ins (L : StbLay P k) (E : StbEnv P k enc key cf g cb blk off size w) (cap : Nat) (X A Z : List α) (hl : (X ++ (A ++ Z)).length = size) (m : Nat) (os : Array Obj) :
 Calls P 124 #[.slice (some ⟨blk, off, none⟩) size cap, .int .i64 (X.length : Nat), .int .i64 ((X.length + A.length : Nat) : Int), .func (.func g) #[] cb] (sortWorldK enc k w blk off m (X ++ (A ++ Z)).toArray os) fun e w' =>
  e = .returned (.tuple #[]) ∧ ∃ m' os', w' = sortWorldK enc k w blk off m' (X ++ (sortK key A ++ Z)).toArray os' := by
 have hd : (X ++ (A ++ Z)).toArray.size = size := by rw [List.size_toArray]; exact hl
 have E2 := E.step m _ os hd
 have h := AnyQ.insertionSortCmpFunc L.ins k L.aE L.zE enc E.hk E.h1 cf g cb blk off cap X.length (X.length + A.length) (X ++ (A ++ Z)).toArray (sortWorldK enc k w blk off m (X ++ (A ++ Z)).toArray os) E.eg (by rw [hd]; exact E2.hcmp) (E.holds m _ os hd) E2.hblk (Nat.le_add_right _ _) (by rw [hd, ← hl]; simp) (by rw [hd]; exact E.hsz)
 rw [hd] at h
 refine Calls.mono h ?_
 rintro e w' ⟨rfl, n, os2, rfl⟩
 rw [insertionSort_is E.hlt, E.again m _ os hd n _ os2 (by rw [← hd]; simp [sortK_length])]
 exact ⟨rfl, _, _, rfl⟩
end
/-- two parts of a row exchanged, element by element -/
def swrF {α : Type} [Inhabited α] (d : Array α) (a b : Nat) : Nat → Array α
 | 0 => d
 | i + 1 => swp (swrF d a b i) (a + i) (b + i)
theorem swrF_size {α : Type} [Inhabited α] (d : Array α) (a b : Nat) : ∀ n, (swrF d a b n).size = d.size
 | 0 => rfl
 | n + 1 => by unfold swrF; rw [size_swp, swrF_size d a b n]
theorem swrF_is {α : Type} [Inhabited α] (X A M B Z : List α) (h : A.length = B.length) : ∀ i, i ≤ A.length →
 swrF (X ++ (A ++ (M ++ (B ++ Z)))).toArray X.length (X.length + A.length + M.length) i = (X ++ (B.take i ++ (A.drop i ++ (M ++ (A.take i ++ (B.drop i ++ Z)))))).toArray
 | 0, _ => by simp [swrF]
 | i + 1, hi => by
   unfold swrF
   rw [swrF_is X A M B Z h i (by omega)]
   have hA : ∃ x A', A.drop i = x :: A' ∧ A.drop (i + 1) = A' ∧ A.take (i + 1) = A.take i ++ [x] := ⟨_, _, List.drop_eq_getElem_cons (show i < A.length by omega), rfl, List.take_succ_eq_append_getElem (show i < A.length by omega)⟩
   have hB : ∃ x B', B.drop i = x :: B' ∧ B.drop (i + 1) = B' ∧ B.take (i + 1) = B.take i ++ [x] := ⟨_, _, List.drop_eq_getElem_cons (show i < B.length by omega), rfl, List.take_succ_eq_append_getElem (show i < B.length by omega)⟩
   have l1 : (A.take i).length = i := by rw [List.length_take]; omega
   have l2 : (B.take i).length = i := by rw [List.length_take]; omega
   have l3 : A.length = i + (A.drop i).length := by rw [List.length_drop]; omega
   obtain ⟨x, A', h1, h2, h3⟩ := hA
   obtain ⟨y, B', h4, h5, h6⟩ := hB
   rw [h1] at l3
   rw [h1, h2, h3, h4, h5, h6, l3]
   generalize A.take i = A0 at *
   generalize B.take i = B0 at *
   have e1 : X.length + i = (X ++ B0).length := by rw [List.length_append, l2]
   have e2 : X.length + (i + (x :: A').length) + M.length + i = (X ++ B0).length + 1 + (A' ++ (M ++ A0)).length := by
    simp only [List.length_append, List.length_cons, l1, l2]; omega
   rw [e1, e2, show X ++ (B0 ++ (x :: A' ++ (M ++ (A0 ++ (y :: B' ++ Z))))) = (X ++ B0) ++ x :: ((A' ++ (M ++ A0)) ++ y :: (B' ++ Z)) by simp, swp_lists]
   congr 1
   simp
theorem swrF_all {α : Type} [Inhabited α] (X A M B Z : List α) (h : A.length = B.length) : swrF (X ++ (A ++ (M ++ (B ++ Z)))).toArray X.length (X.length + A.length + M.length) A.length = (X ++ (B ++ (M ++ (A ++ Z)))).toArray := by
 rw [swrF_is X A M B Z h _ (Nat.le_refl _)]
 congr 1
 rw [List.take_of_length_le (Nat.le_of_eq h.symm), List.drop_eq_nil_of_le (Nat.le_refl _), List.take_of_length_le (Nat.le_refl _), List.drop_eq_nil_of_le (Nat.le_of_eq h.symm)]
 simp
end Go.Proofs.YtpfbfhigelbfcaaGreat

