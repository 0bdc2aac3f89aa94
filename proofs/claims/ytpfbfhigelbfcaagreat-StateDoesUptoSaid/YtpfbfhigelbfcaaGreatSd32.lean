/- The keys of a map of numbers, sorted: maps.Keys, slices.Sorted -/
import Derived.Test.YtpfbfhigelbfcaaGreatSd8
import Derived.Test.YtpfbfhigelbfcaaGreatSd31
import Derived.Shelf.SlIterI.Nil
import Derived.Shelf.SortM.Plain
import Derived.Shelf.SortM.SortNone
set_option linter.unusedSimpArgs false
set_option linter.unusedVariables false
namespace Go.Proofs.YtpfbfhigelbfcaaGreat
open Go.RowKit Go.Lib Go.Maps Go.Sort Go.Shelf
def keysJ_ren : Go.Shelf.Ren := ⟨fun | 7 => 63 | 10 => 100 | n => n,
 fun | 23 => 93 | 26 => 3 | 3 => 3 | 28 => 117 | 0 => 0 | 27 => 116 | 33 => 149 | 4 => 4 | n => n,
 fun | n => n⟩
theorem keysJ : Go.Proofs.SlLaysZI.n7 Tryz.prog keysJ_ren := {
 mixed := by kernel_rfl,
 f7 := ⟨Tryz.f63.name, by decide, Tryz.func63.trans (congrArg some (by kernel_rfl))⟩,
 f10 := ⟨Tryz.f100.name, by decide, Tryz.func100.trans (congrArg some (by kernel_rfl))⟩,
 t0 := Tryz.underlying0,
 a0 := Tryz.isAgg0,
 z0 := Tryz.sizeOf0,
 v0 := Tryz.zeroValue0,
 t4 := Tryz.underlying4,
 a4 := Tryz.isAgg4,
 z4 := Tryz.sizeOf4,
 v4 := Tryz.zeroValue4,
 t23 := Tryz.underlying93,
 a23 := Tryz.isAgg93,
 z23 := Tryz.sizeOf93,
 v23 := Tryz.zeroValue93,
 t26 := Tryz.underlying3,
 a26 := Tryz.isAgg3,
 z26 := Tryz.sizeOf3,
 v26 := Tryz.zeroValue3,
 t27 := Tryz.underlying116,
 a27 := Tryz.isAgg116,
 z27 := Tryz.sizeOf116,
 v27 := Tryz.zeroValue116,
 t28 := Tryz.underlying117,
 a28 := Tryz.isAgg117,
 z28 := Tryz.sizeOf117,
 v28 := Tryz.zeroValue117,
 t33 := Tryz.underlying149,
 a33 := Tryz.isAgg149,
 z33 := Tryz.sizeOf149,
 v33 := Tryz.zeroValue149 }
def sortedJ_ren : Go.Shelf.Ren := ⟨fun | 6 => 62 | 8 => 98 | 9 => 99 | 11 => 126 | 13 => 128 | 12 => 127 | 23 => 159 | 24 => 160 | 14 => 150 | 15 => 151 | 16 => 152 | 17 => 153 | 18 => 154 | 19 => 155 | 20 => 156 | 21 => 157 | 22 => 158 | 25 => 169 | 26 => 170 | 27 => 171 | 28 => 172 | 29 => 173 | 30 => 96 | 31 => 184 | n => n,
 fun | 26 => 3 | 28 => 117 | 24 => 40 | 0 => 0 | 3 => 3 | 37 => 177 | 48 => 196 | 50 => 22 | 4 => 4 | 40 => 189 | 39 => 188 | 45 => 103 | 5 => 5 | 9 => 9 | 51 => 203 | 55 => 207 | 57 => 214 | 58 => 70 | 33 => 149 | n => n,
 fun | n => n⟩
theorem sortedJ : Go.Proofs.SlLaysZI.n6 Tryz.prog sortedJ_ren := {
 mixed := by kernel_rfl,
 f6 := ⟨Tryz.f62.name, by decide, Tryz.func62.trans (congrArg some (by kernel_rfl))⟩,
 f8 := ⟨Tryz.f98.name, by decide, Tryz.func98.trans (congrArg some (by kernel_rfl))⟩,
 f11 := ⟨Tryz.f126.name, by decide, Tryz.func126.trans (congrArg some (by kernel_rfl))⟩,
 t0 := Tryz.underlying0,
 a0 := Tryz.isAgg0,
 z0 := Tryz.sizeOf0,
 v0 := Tryz.zeroValue0,
 t24 := Tryz.underlying40,
 a24 := Tryz.isAgg40,
 z24 := Tryz.sizeOf40,
 v24 := Tryz.zeroValue40,
 t26 := Tryz.underlying3,
 a26 := Tryz.isAgg3,
 z26 := Tryz.sizeOf3,
 v26 := Tryz.zeroValue3,
 t28 := Tryz.underlying117,
 a28 := Tryz.isAgg117,
 z28 := Tryz.sizeOf117,
 v28 := Tryz.zeroValue117,
 i26 := by kernel_rfl }
theorem sortsJ (m : Nat) : AnyZI.SortsIn Tryz.prog sortedJ_ren Fence.wide m :=
 ⟨fun blk off cap ss W hH hblk hsz => callsIn_wide.2 (AnyM.slices_Sort_int sortI blk off cap ss W hH hblk hsz),
  fun p cap W => callsIn_wide.2 (AnyM.slices_Sort_int_none sortI p cap W)⟩
theorem keysJ_any (mb : Option Nat) (w : World) : Calls Tryz.prog 63 #[.map mb] w fun e w' => e = .returned (.func (.func 100) #[] #[.pointer (some ⟨w.heap.size, 0, none⟩)]) ∧ w' = w.alloc (.cells #[.map mb] 93) :=
 callsIn_wide.1 (AnyZI.keys_in keysJ Fence.wide 5 trivial rfl mb w)
theorem sorted_keysL {l : List (Int × Int)} {ss : List Int} {D : DataW Unit} (hp : ss.Perm (intKeys D)) (hn : (intKeys D).Nodup) (hm : ∀ s, s ∈ intKeys D ↔ s ∈ l.map (·.1)) (hr : rowL l) : ss.mergeSort (fun x y => decide (x ≤ y)) = l.map (·.1) := by
 have h1 : (intKeys D).Perm (l.map (·.1)) := (List.perm_ext_iff_of_nodup hn (rowL_nodup hr)).2 hm
 have h2 := mergeSort_of_perm_i (hp.trans h1)
 rw [show (fun x y : Int => decide (x ≤ y)) = leI from rfl, h2]
 refine List.mergeSort_of_pairwise ?_
 refine List.pairwise_map.2 (List.Pairwise.imp (fun {a b} h => ?_) hr)
 simp only [leI, decide_eq_true_eq]
 omega
theorem flatI_map (L : List Int) : encI.flat L = L.map encZ := by
 induction L with
 | nil => rfl
 | cons x L ih => show encI.f x ++ encI.flat L = _; rw [ih]; rfl
/-- 'slices.Sorted(maps.Keys(m))', its second call -/
theorem sortedJ_any {w : World} {M n : Nat} {l : List (Int × Int)} (h : Mj w M n (getL l)) (hr : rowL l) (hl : l.length ≤ 1048576) :
 Calls Tryz.prog 62 #[.func (.func 100) #[] #[.pointer (some ⟨w.heap.size, 0, none⟩)]] (w.alloc (.cells #[.map (some M)] 93)) fun e w' => ∃ v, e = .returned v ∧ Gw encI w' w.heap.size v (l.map (·.1)) ∧ Below w.heap.size w w' := by
 obtain ⟨h0, D, hown, hd⟩ := h
 obtain ⟨k1, k2, k3, k4⟩ := sizeJ_is hown hd h0 hr
 have hbl := hown.lt
 have hseq : SeqGives Fence.wide 2 Tryz.prog 100 #[.pointer (some ⟨w.heap.size, 0, none⟩)] encZ (fun ss => ss.Perm (intKeys D)) (Maps.size D) (w.alloc (.cells #[.map (some M)] 93)) :=
  AnyZI.keys_gives (ρ := keysJ_ren) { keysJ with } Fence.wide _ trivial rfl (by omega) w.heap.size M _ D _ (by simp) (by simp) (by
   obtain ⟨es, clock, hb, Ft, hs, hD⟩ := k2
   exact ⟨es, clock, (Below.heap_alloc _ _ M hbl).trans hb, Ft, hs, hD⟩)
 have cS := AnyZI.sorted_in sortedJ Fence.wide 5 trivial trivial trivial trivial rfl (by omega) (sortsJ _) (enters_of Tryz.func99 (by kernel_rfl) rfl) 100 #[.pointer (some ⟨w.heap.size, 0, none⟩)] trivial (enters_of Tryz.func100 (by kernel_rfl) rfl) _ _ (by rw [k1]; unfold maxLen; omega) (by rw [k1]; omega) _ hseq
 change CallsIn _ _ Tryz.prog 62 _ _ _ at cS
 refine (callsIn_wide.1 cS).mono ?_
 rintro e w' ⟨v, ss, rfl, hS, hrow, hnil, hb⟩
 have hss := sorted_keysL hS k3 k4 hr
 have hlen : ss.length = (l.map (·.1)).length := by rw [← hss, List.length_mergeSort]
 have hrow2 := ownsRow_base_a (base' := w.heap.size) hrow (by simp)
 rw [hss, hlen] at hrow2
 refine ⟨v, rfl, ?_, ((Below.refl _ w).alloc (Nat.le_refl _) _).trans (hb.mono (by simp))⟩
 show w'.ownsRow w.heap.size encI.t encI.k v (l.map (·.1)).length (encI.flat (l.map (·.1)))
 rw [flatI_map]
 exact hrow2
end Go.Proofs.YtpfbfhigelbfcaaGreat

