/- strings.Builder: grow, Grow at a fresh one; String; Walks of package hex: Text; of its reference: figure, Text; Walks of the reference of layer 3: figure, Text -/
import Derived.Test.YtahjofjblhpndaaDoorMn2
import Derived.Test.YtahjofjblhpndaaDoorMn6
import Derived.Test.YtahjofjblhpndaaDoorMn11
set_option linter.unusedSimpArgs false
set_option linter.unusedVariables false
namespace Go.Proofs.YtahjofjblhpndaaDoor
set_option linter.unusedVariables false
open Go.RowKit Go.Lib

set_option maxHeartbeats 2000000 in
set_option maxRecDepth 1000000 in
theorem bgrow_fresh (B b n : Nat) (w : World) (hB : B ≤ b) (hbk : w.heap[b]? = some (.cells #[.pointer (some ⟨b, 0, none⟩), .slice none 0 0] 74 (0, 0))) (hBw : B ≤ w.heap.size) (hn : n ≤ 281474976710656) :
    Calls Tryd.prog 54 #[.pointer (some ⟨b, 0, none⟩), .int .i64 n] w fun e w' => e = .returned (.tuple #[]) ∧ (Lib.BuilderAt 74 5 B b (.pointer (some ⟨b, 0, none⟩)) [] w' ∧ Below B w w') := by
  obtain ⟨cs, hrun, hle, hmax⟩ := Lib.run_makeNoZero (P := Tryd.prog) w.drew #[3] 23 5 Tryd.underlying23 n hn
  have hw : IntKind.i64.wrap (IntKind.i64.wrap 0 + (n : Int)) = n := by
    rw [IntKind.wrap_i64, IntKind.wrap_i64]
    omega
  have hcall : (callFunc 67 #[.int .i64 (IntKind.i64.wrap (IntKind.i64.wrap 0 + (n : Int)))]).run Tryd.prog w.drew = .ok (.value (.slice (some ⟨w.drew.heap.size, 0, none⟩) n cs.size)) (w.drew.drew.drew.alloc (.cells cs 5)) := by
    rw [hw, run_callFunc_extern Tryd.func67 (by kernel_rfl) (by kernel_rfl) (by kernel_rfl) (e := Extern.BytealgMakeNoZero.makeNoZero #[3] #[23]) (by kernel_rfl), hrun]
    rfl
  have c1 : w.drew.cell? ⟨b, 1, none⟩ = some (.slice none 0 0) := by
    have : w.drew.heap[b]? = _ := hbk
    rw [Lib.cell_of_heap this]; rfl
  have hlt : b < w.heap.size := by
    rcases Nat.lt_or_ge b w.heap.size with h' | h'
    · exact h'
    · simp [Array.getElem?_eq_none h'] at hbk
  have c2 : (w.alloc (.cells cs 5)).cell? ⟨b, 1, none⟩ = some (.slice none 0 0) := by
    have : (w.alloc (.cells cs 5)).heap[b]? = _ := (Lib.alloc_old w _ b hlt).trans hbk
    rw [Lib.cell_of_heap this]; rfl
  have f2 : (w.alloc (.cells cs 5)).frozen? ⟨b, 1, none⟩ = false := Lib.frozen_of_heap ((Lib.alloc_old w _ b hlt).trans hbk) 1
  have hcopy : ∀ W : World, (Builtin.copy_ #[23, 23] 3 #[.slice (some ⟨w.heap.size, 0, none⟩) 0 cs.size, .slice none 0 0]).run Tryd.prog W = .ok (goInt 0) W :=
    fun W => run_copy_none W 23 23 3 5 _ _ 0 cs.size 0 0 Tryd.underlying23 size8 rfl
  clear hw hlt
  have hfin := Lib.grown_fresh (T := 74) (e := 5) (cs := cs) hB hbk hBw (hmax (by unfold maxLen; omega)) bld_ne
  go_enter Tryd.func54, Tryd.ntmps54
  go_wp2
  go_region_held3 (fun W => W.cell? ⟨b, 1, none⟩ = some (.slice none 0 0)) (first | exact c1 | exact c2 | assumption) (fail)
  go_wp2
  go_end0
  exact ⟨rfl, hfin⟩

set_option maxHeartbeats 2000000 in
set_option maxRecDepth 1000000 in
theorem bGrow_fresh (B b n : Nat) (w : World) (hB : B ≤ b) (hbk : w.heap[b]? = some (.cells #[.pointer none, .slice none 0 0] 74 (0, 0))) (hBw : B ≤ w.heap.size) (hn : n ≤ 281474976710656) :
    Calls Tryd.prog 44 #[.pointer (some ⟨b, 0, none⟩), .int .i64 n] w fun e w' => e = .returned (.tuple #[]) ∧ Bu w' B b [] ∧ Below B w w' := by
  have hbk1 : (w.setCell ⟨b, 0, none⟩ (.pointer (some ⟨b, 0, none⟩))).heap[b]? = some (.cells #[.pointer (some ⟨b, 0, none⟩), .slice none 0 0] 74 (0, 0)) := by
    simp [World.setCell, Array.getElem?_modify, hbk]
  have hb1 : Below B w (w.setCell ⟨b, 0, none⟩ (.pointer (some ⟨b, 0, none⟩))) := (Below.refl B w).setCell (p := ⟨b, 0, none⟩) hB _
  have hU : Lib.BuilderAt 74 5 B b (.pointer (some ⟨b, 0, none⟩)) [] (w.setCell ⟨b, 0, none⟩ (.pointer (some ⟨b, 0, none⟩))) := ⟨hB, .slice none 0 0, hbk1, World.ownsRow_nil _ _ _ _, by simp [Value.ownBlock]⟩
  have hs : B ≤ (w.setCell ⟨b, 0, none⟩ (.pointer (some ⟨b, 0, none⟩))).heap.size := by simpa [World.setCell] using hBw
  have c1 : (w.setCell ⟨b, 0, none⟩ (.pointer (some ⟨b, 0, none⟩))).cell? ⟨b, 1, none⟩ = some (.slice none 0 0) := by rw [Lib.cell_of_heap hbk1]; rfl
  have hck := bcheck_fresh b w (by rw [Lib.cell_of_heap hbk]; rfl) (by simp [World.shape?, hbk]) (Lib.frozen_of_heap hbk 0)
  have H := Lib.hid hck
  clear hck
  go_enter Tryd.func44, Tryd.ntmps44
  go_wp2_with (go_at_call 53; refine H.out.mono ?_; rintro e w' ⟨rfl, rfl⟩)
  generalize w.setCell ⟨b, 0, none⟩ (.pointer (some ⟨b, 0, none⟩)) = w1 at *
  have hq : ∀ q, (w1.drewN q).cell? ⟨b, 1, none⟩ = some (.slice none 0 0) := fun q => by simpa using c1
  have HU := Lib.hid hU
  have HB := Lib.hid hb1
  have HK := Lib.hid hbk1
  clear hU hb1 hbk1 hbk H
  go_quiet (fail)
  go_wp2_with (go_at_call 54; refine (bgrow_fresh B b n _ hB (by simpa using HK.out) (by simpa using hs) hn).mono ?_; rintro e w' ⟨rfl, h1, h2⟩)
  · go_end0
    refine ⟨rfl, ⟨fun j => by simp, Or.inr h1⟩, (below_drewN HB.out _).trans h2⟩
  · go_end0
    exact ⟨rfl, ⟨fun j => by simp, Or.inr HU.out⟩, below_drewN HB.out _⟩

/-- Freezing changes no cell. -/
theorem cell_freeze (w : World) (a : Addr) (n : Nat) (p : Addr) : (w.freeze a n).cell? p = w.cell? p := by
  unfold World.freeze
  split
  · rfl
  · simp only [World.cell?, Array.getElem?_modify]
    by_cases h : a.block = p.block
    · rw [if_pos h]
      cases hq : w.heap[p.block]? with
      | none => rfl
      | some o => cases o <;> rfl
    · rw [if_neg h]

/-- Bytes' cells, as the string's law names them. -/
theorem bytes_cells {zs : List Int} (h : ∀ j, 0 ≤ zs.getD j 0 ∧ zs.getD j 0 < 256) : zs.map (Value.int .u8) = Lib.byteCells (zs.map fun n => UInt8.ofNat n.toNat) := by
  simp only [Lib.byteCells, List.map_map]
  apply List.map_congr_left
  intro z hz
  obtain ⟨j, hj, rfl⟩ := List.getElem_of_mem hz
  have := h j
  simp only [List.getD_eq_getElem?_getD, List.getElem?_eq_getElem hj, Option.getD_some] at this
  simp only [Function.comp]
  congr 1
  simp
  omega

set_option maxHeartbeats 2000000 in
set_option maxRecDepth 100000 in
theorem bstring_some (B b : Nat) (l : List UInt8) (w : World) (h : Lib.IsBuilder 74 5 B b (Lib.byteCells l) w) (h0 : l ≠ []) :
    Calls Tryd.prog 46 #[.pointer (some ⟨b, 0, none⟩)] w fun e w' => e = .returned (.string ⟨l.toArray⟩) ∧ Below B w w' := by
  obtain ⟨p, hB, v, hbk, hown, hne⟩ : ∃ p, Lib.BuilderAt 74 5 B b p (Lib.byteCells l) w := by
    rcases h with h | h
    · exact ⟨_, h⟩
    · exact ⟨_, h⟩
  have hl0 : l.length ≠ 0 := by simpa using h0
  rw [Lib.byteCells_length] at hown
  obtain ⟨g, cap, cur, rfl, hbg, hg, hnc, hcm, hcs, htake⟩ : ∃ g cap cur, v = .slice (some ⟨g, 0, none⟩) l.length cap ∧ B ≤ g ∧ w.heap[g]? = some (.cells cur 5 (0, 0)) ∧ l.length ≤ cap ∧ cap ≤ maxLen ∧ cur.size = cap * 1 ∧ cur.toList.take (l.length * 1) = Lib.byteCells l := by
    rcases hown.2 with ⟨_, hz⟩ | ⟨g, cap, cur, hv, r⟩
    · exact absurd hz hl0
    · exact ⟨g, cap, cur, hv, r⟩
  have c1 : w.drew.cell? ⟨b, 1, none⟩ = some (.slice (some ⟨g, 0, none⟩) l.length cap) := by
    have : w.drew.heap[b]? = some (.cells #[p, .slice (some ⟨g, 0, none⟩) l.length cap] 74 (0, 0)) := hbk
    rw [Lib.cell_of_heap this]; rfl
  have hSD : (Builtin.unsafeSliceData_ #[23] 87 #[.slice (some ⟨g, 0, none⟩) l.length cap]).run Tryd.prog w.drew = .ok (.pointer (some ⟨g, 0, none⟩)) w.drew :=
    Lib.run_unsafeSliceData_row _ _ _ _ _ _ (by omega)
  have hUS : (Builtin.unsafeString_ #[87, 3] 9 #[.pointer (some ⟨g, 0, none⟩), .int .i64 l.length]).run Tryd.prog w.drew = .ok (.string ⟨l.toArray⟩) (w.drew.freeze ⟨g, 0, none⟩ l.length) := by
    refine Lib.run_unsafeString_row w.drew 87 3 9 5 Tryd.underlying87 cells8 g cur.size (by have hg' : w.drew.heap[g]? = some (.cells cur 5 (0, 0)) := hg; simp [World.shape?, hg']) l h0 (by omega) (by unfold maxLen at hcm; omega) ?_
    intro j x hx
    have := hown.cells (g := g) rfl j (.int .u8 x.toNat) (by simp [Lib.byteCells, hx])
    exact this
  have c3 : (w.drew.freeze ⟨g, 0, none⟩ l.length).cell? ⟨b, 1, none⟩ = some (.slice (some ⟨g, 0, none⟩) l.length cap) := by rw [cell_freeze]; exact c1
  clear hcm hnc hcs htake hl0 h0 h
  go_enter Tryd.func46, Tryd.ntmps46
  go_wp2
  go_region_held3 (fun W => W.cell? ⟨b, 1, none⟩ = some (.slice (some ⟨g, 0, none⟩) l.length cap)) (first | exact c1 | exact c3 | assumption) (fail)
  all_goals (go_wp2; go_ret; exact ⟨rfl, Lib.below_freeze (Below.drew (Below.refl B w)) (p := ⟨g, 0, none⟩) hbg _⟩)

theorem unsafeString_none (W : World) (q : Option Addr) : (Builtin.unsafeString_ #[87, 3] 9 #[.pointer q, .int .i64 0]).run Tryd.prog W = .ok (.string .empty) W :=
  Lib.run_unsafeString_none W _ _ _ q

set_option maxHeartbeats 2000000 in
set_option maxRecDepth 100000 in
theorem bstring_nil (B b : Nat) (p : Value) (w : World) (hbk : w.heap[b]? = some (.cells #[p, .slice none 0 0] 74 (0, 0))) :
    Calls Tryd.prog 46 #[.pointer (some ⟨b, 0, none⟩)] w fun e w' => e = .returned (.string ⟨#[]⟩) ∧ Below B w w' := by
  have hUS := unsafeString_none
  have c1 : w.drew.cell? ⟨b, 1, none⟩ = some (.slice none 0 0) := by
    have : w.drew.heap[b]? = some (.cells #[p, .slice none 0 0] 74 (0, 0)) := hbk
    rw [Lib.cell_of_heap this]; rfl
  have hSD : ∀ W, (Builtin.unsafeSliceData_ #[23] 87 #[.slice none 0 0]).run Tryd.prog W = .ok (.pointer none) W := fun W => rfl
  go_enter Tryd.func46, Tryd.ntmps46
  go_wp2
  go_region_held3 (fun W => W.cell? ⟨b, 1, none⟩ = some (.slice none 0 0)) (first | exact c1 | assumption) (fail)
  all_goals (go_wp2; go_ret; exact ⟨rfl, Below.drew (Below.refl B w)⟩)

set_option maxHeartbeats 2000000 in
set_option maxRecDepth 100000 in
theorem bstring_noroom (B b g : Nat) (p : Value) (cur : Array Value) (w : World) (hBw : B ≤ w.heap.size) (hbk : w.heap[b]? = some (.cells #[p, .slice (some ⟨g, 0, none⟩) 0 0] 74 (0, 0))) (hg : w.heap[g]? = some (.cells cur 5 (0, 0))) :
    Calls Tryd.prog 46 #[.pointer (some ⟨b, 0, none⟩)] w fun e w' => e = .returned (.string ⟨#[]⟩) ∧ Below B w w' := by
  have hUS := unsafeString_none
  have hlt : b < w.heap.size := by
    rcases Nat.lt_or_ge b w.heap.size with h' | h'
    · exact h'
    · simp [Array.getElem?_eq_none h'] at hbk
  have c1 : w.drew.cell? ⟨b, 1, none⟩ = some (.slice (some ⟨g, 0, none⟩) 0 0) := by
    have : w.drew.heap[b]? = some (.cells #[p, .slice (some ⟨g, 0, none⟩) 0 0] 74 (0, 0)) := hbk
    rw [Lib.cell_of_heap this]; rfl
  have hSD : (Builtin.unsafeSliceData_ #[23] 87 #[.slice (some ⟨g, 0, none⟩) 0 0]).run Tryd.prog w.drew = .ok (.pointer (some ⟨w.drew.heap.size, 0, none⟩)) (w.drew.alloc (.view ⟨g, 0, none⟩ 5)) :=
    Lib.run_unsafeSliceData_zero w.drew _ _ 5 Tryd.underlying87 ⟨g, 0, none⟩ 0 (5, cur.size) (by have hg' : w.drew.heap[g]? = some (.cells cur 5 (0, 0)) := hg; simp [World.shape?, hg'])
  have c2 : (w.drew.alloc (.view ⟨g, 0, none⟩ 5)).cell? ⟨b, 1, none⟩ = some (.slice (some ⟨g, 0, none⟩) 0 0) := by
    have : (w.drew.alloc (.view ⟨g, 0, none⟩ 5)).heap[b]? = _ := (Lib.alloc_old w.drew _ b hlt).trans hbk
    rw [Lib.cell_of_heap this]; rfl
  clear hlt
  go_enter Tryd.func46, Tryd.ntmps46
  go_wp2
  go_region_held3 (fun W => W.cell? ⟨b, 1, none⟩ = some (.slice (some ⟨g, 0, none⟩) 0 0)) (first | exact c1 | exact c2 | assumption) (fail)
  all_goals (go_wp2; go_ret; exact ⟨rfl, (Below.drew (Below.refl B w)).alloc hBw _⟩)

set_option maxHeartbeats 2000000 in
set_option maxRecDepth 100000 in
theorem bstring_room (B b g cap : Nat) (p : Value) (w : World) (hc0 : cap ≠ 0) (hbk : w.heap[b]? = some (.cells #[p, .slice (some ⟨g, 0, none⟩) 0 cap] 74 (0, 0))) :
    Calls Tryd.prog 46 #[.pointer (some ⟨b, 0, none⟩)] w fun e w' => e = .returned (.string ⟨#[]⟩) ∧ Below B w w' := by
  have hUS := unsafeString_none
  have c1 : w.drew.cell? ⟨b, 1, none⟩ = some (.slice (some ⟨g, 0, none⟩) 0 cap) := by
    have : w.drew.heap[b]? = some (.cells #[p, .slice (some ⟨g, 0, none⟩) 0 cap] 74 (0, 0)) := hbk
    rw [Lib.cell_of_heap this]; rfl
  have hSD : ∀ W : World, (Builtin.unsafeSliceData_ #[23] 87 #[.slice (some ⟨g, 0, none⟩) 0 cap]).run Tryd.prog W = .ok (.pointer (some ⟨g, 0, none⟩)) W :=
    fun W => Lib.run_unsafeSliceData_row _ _ _ _ _ _ hc0
  clear hc0
  go_enter Tryd.func46, Tryd.ntmps46
  go_wp2
  go_region_held3 (fun W => W.cell? ⟨b, 1, none⟩ = some (.slice (some ⟨g, 0, none⟩) 0 cap)) (first | exact c1 | assumption) (fail)
  all_goals (go_wp2; go_ret; exact ⟨rfl, Below.drew (Below.refl B w)⟩)

/-- String of any builder of the call's own: the bytes that it holds. -/
theorem bstring_any (B b : Nat) (zs : List Int) (w : World) (h : Bu w B b zs) (hBw : B ≤ w.heap.size) :
    Calls Tryd.prog 46 #[.pointer (some ⟨b, 0, none⟩)] w fun e w' => e = .returned (.string (strOfNums zs)) ∧ Below B w w' := by
  obtain ⟨hby, hb⟩ := h
  by_cases h0 : zs = []
  · subst h0
    obtain ⟨p, hB, v, hbk, hown, hne⟩ : ∃ p, Lib.BuilderAt 74 5 B b p [] w := by
      rcases hb with h | h
      · exact ⟨_, h⟩
      · exact ⟨_, h⟩
    rcases hown.2 with ⟨rfl, _⟩ | ⟨g, cap, cur, rfl, hbg, hg, _, _, _, _⟩
    · exact bstring_nil B b p w hbk
    · by_cases hc0 : cap = 0
      · subst hc0
        exact bstring_noroom B b g p cur w hBw hbk hg
      · exact bstring_room B b g cap p w hc0 hbk
  · rw [bytes_cells hby] at hb
    exact bstring_some B b _ w hb (by simpa using h0)

end Go.Proofs.YtahjofjblhpndaaDoor

namespace Go.Proofs.YtahjofjblhpndaaDoor
set_option linter.unusedVariables false
open Go.RowKit Go.Lib

theorem bGrow_int (B b : Nat) (x : Int) (w : World) (hB : B ≤ b) (hbk : w.heap[b]? = some (.cells #[.pointer none, .slice none 0 0] 74 (0, 0))) (hBw : B ≤ w.heap.size) (h0 : 0 ≤ x) (hn : x ≤ 281474976710656) :
    Calls Tryd.prog 44 #[.pointer (some ⟨b, 0, none⟩), .int .i64 x] w fun e w' => e = .returned (.tuple #[]) ∧ Bu w' B b [] ∧ Below B w w' := by
  obtain ⟨n, rfl⟩ := Int.eq_ofNat_of_zero_le h0
  exact bGrow_fresh B b n w hB hbk hBw (by omega)

/-- The constant string of the figures, at an index below 16. -/
theorem run_digit (W : World) (n : Int) (h0 : 0 ≤ n) (h1 : n < 16) :
    (Instr.index 9 (.string { data := #[48, 49, 50, 51, 52, 53, 54, 55, 56, 57, 97, 98, 99, 100, 101, 102] }) (.int .u8 n)).run Tryd.prog W = .ok (.int .u8 (hfig n)) W := by
  rw [run_index_string W 9 _ .u8 n Tryd.underlying9, dif_pos ⟨h0, by simpa [ByteArray.size] using h1⟩]
  obtain ⟨k, rfl⟩ := Int.eq_ofNat_of_zero_le h0
  have hk : k = 0 ∨ k = 1 ∨ k = 2 ∨ k = 3 ∨ k = 4 ∨ k = 5 ∨ k = 6 ∨ k = 7 ∨ k = 8 ∨ k = 9 ∨ k = 10 ∨ k = 11 ∨ k = 12 ∨ k = 13 ∨ k = 14 ∨ k = 15 := by omega
  rcases hk with rfl | rfl | rfl | rfl | rfl | rfl | rfl | rfl | rfl | rfl | rfl | rfl | rfl | rfl | rfl | rfl <;> rfl

set_option maxRecDepth 100000 in
theorem htext_any (p : Option Addr) (len cap : Nat) (zs : List Int) (w : World) (h : Bs w p len zs) (hlen : len ≤ 70368744177663) :
    Calls Tryd.prog 36 #[.slice p len cap] w fun e w' => e = .returned (.string (strOfNums (hexs zs))) ∧ Below w.heap.size w w' := by
  have H := Lib.hid h
  have HL := Lib.hid h.len
  clear h
  go_enter Tryd.func36, Tryd.ntmps36
  go_wp2_with (go_at_call 44; refine (bGrow_int w.heap.size _ _ _ (Nat.le_refl _) (heap_alloc_new w _) (by simp) (by omega) (by omega)).mono ?_; rintro e w1 ⟨rfl, hbu, hb⟩)
  have HB : Hid (Below w.heap.size w w1) := Lib.hid (((Below.refl _ _).alloc (Nat.le_refl _) _).trans hb)
  have HU := Lib.hid hbu
  clear hb hbu
  go_loopw [12] (fun i wr => ∃ k : Nat, k ≤ len ∧ i = .int .i64 k ∧ Hid (Bu wr w.heap.size w.heap.size (hexs (zs.take k))) ∧ Hid (Below w.heap.size w wr)) (fun i _ => len - (intOf i).toNat)
  case atStart => exact ⟨0, Nat.zero_le _, rfl, by simpa [hexs] using HU, HB⟩
  case round =>
    obtain ⟨k, hk, rfl, hu, hbl⟩ := hrel
    by_cases hlt : k < len
    · have hbs := H.out.later hbl.out
      obtain ⟨_, hby, hc⟩ := hbs
      rcases hc with hc | ⟨b0, off, rfl, hc⟩
      · omega
      have hck := hc k hlt
      obtain ⟨y, hy⟩ : ∃ y, zs.getD k 0 = y := ⟨_, rfl⟩
      have hyb := H.out.byte k
      rw [hy] at hck hyb
      have HY := Lib.hid hy
      clear hc hby hy
      have hx1 : ∀ W, (Instr.index 9 (.string { data := #[48, 49, 50, 51, 52, 53, 54, 55, 56, 57, 97, 98, 99, 100, 101, 102] }) (.int .u8 (y / 16))).run Tryd.prog W = .ok (.int .u8 (hfig (y / 16))) W := fun W => run_digit W _ (by omega) (by omega)
      have hx2 : ∀ W, (Instr.index 9 (.string { data := #[48, 49, 50, 51, 52, 53, 54, 55, 56, 57, 97, 98, 99, 100, 101, 102] }) (.int .u8 (y % 16))).run Tryd.prog W = .ok (.int .u8 (hfig (y % 16))) W := fun W => run_digit W _ (by omega) (by omega)
      have hf1 := hfig_bd (n := y / 16) (by omega) (by omega)
      have hf2 := hfig_bd (n := y % 16) (by omega) (by omega)
      have HT := Lib.hid (hexs_take (zs := zs) (k := k) (by rw [HL.out]; exact hlt))
      have hl0 : (hexs (zs.take k)).length = 2 * k := by rw [hexs_length, List.length_take, HL.out]; omega
      have hl1 : (hexs (zs.take k)).length + 1 ≤ 140737488355328 := by omega
      have hl2 : (hexs (zs.take k) ++ [hfig (y / 16)]).length + 1 ≤ 140737488355328 := by rw [List.length_append, List.length_singleton]; omega
      have hs := hbl.out.size
      go_wp2_with fail
      refine (bwrite_any w.heap.size w.heap.size _ _ _ hu.out hf1.1 hf1.2 hl1 hs).mono ?_
      rintro e w2 ⟨rfl, hb2, hbl2⟩
      have HU2 := Lib.hid hb2
      have hbl2' := hbl.out.trans hbl2
      have hs2 := hbl2'.size
      have HB2 := Lib.hid hbl2'
      clear hb2 hbl2 hbl2'
      go_wp2_with fail
      refine (bwrite_any w.heap.size w.heap.size _ _ _ HU2.out hf2.1 hf2.2 hl2 hs2).mono ?_
      rintro e w3 ⟨rfl, hb3, hbl3⟩
      have HU3 := Lib.hid hb3
      have HB3 := Lib.hid (HB2.out.trans hbl3)
      clear hb3 hbl3
      go_wp2
      refine ⟨⟨k + 1, by omega, by go_num, ?_, HB3⟩, by simp [intOf]; omega⟩
      have := HU3.out
      rw [List.append_assoc] at this
      rw [HT.out, HY.out]
      exact Lib.hid this
    · have e : k = len := by omega
      subst e
      have hs := hbl.out.size
      have hu' := hu.out
      rw [← HL.out, List.take_length] at hu'
      have HU' := Lib.hid hu'
      clear hu'
      go_wp2_with fail
      refine (bstring_any w.heap.size w.heap.size _ _ HU'.out hs).mono ?_
      rintro e w2 ⟨rfl, hb2⟩
      have HB2 := Lib.hid (hbl.out.trans hb2)
      clear hb2
      go_wp2
      go_ret
      exact ⟨rfl, HB2.out⟩
end Go.Proofs.YtahjofjblhpndaaDoor

namespace Go.Proofs.YtahjofjblhpndaaDoor
set_option linter.unusedVariables false
open Go.RowKit Go.Lib

theorem wrap_u8_in {x : Int} (h0 : 0 ≤ x) (h1 : x < 256) : IntKind.u8.wrap x = x := by
  have e1 : IntKind.u8.signed = false := rfl
  have e2 : (2 ^ IntKind.u8.bits : Int) = 256 := by decide
  simp only [IntKind.wrap, e1, e2, Bool.false_and, Bool.false_eq_true, if_false]
  omega

theorem bytes_two {x y : Int} (h0 : 0 ≤ x) (h1 : x < 256) (h2 : 0 ≤ y) (h3 : y < 256) : ∀ j, 0 ≤ [x, y].getD j 0 ∧ [x, y].getD j 0 < 256 := by
  intro j
  match j with
  | 0 => exact ⟨h0, h1⟩
  | 1 => exact ⟨h2, h3⟩
  | j + 2 => simp
theorem bs_two (w : World) (x y : Int) (t : TypeId) (h0 : 0 ≤ x) (h1 : x < 256) (h2 : 0 ≤ y) (h3 : y < 256) : Bs (w.alloc (.cells #[.int .u8 x, .int .u8 y] t)) (some ⟨w.heap.size, 0, none⟩) 2 [x, y] :=
  bs_lit w t _ _ 2 rfl (by unfold maxLen; omega) (bytes_two h0 h1 h2 h3) rfl

theorem hfigure_any (n : Int) (w : World) (h0 : 0 ≤ n) (h1 : n < 16) :
    Calls Tryd.prog 48 #[.int .u8 n] w fun e w' => e = .returned (.int .u8 (hfig n)) ∧ w = w' := by
  by_cases h : n < 10
  · have e : hfig n = 48 + n := by unfold hfig; rw [if_pos h]
    rw [e]
    go_enter Tryd.func48, Tryd.ntmps48
    go_wp2
    go_ret
    exact ⟨rfl, rfl⟩
  · have e : hfig n = 87 + n := by unfold hfig; rw [if_neg h]
    have h2 : 10 ≤ n := by omega
    have e2 : decide (n < 10) = false := by simp; omega
    rw [e]
    go_enter Tryd.func48, Tryd.ntmps48
    go_wp2
    go_ret
    exact ⟨ret_int (by omega), rfl⟩

set_option maxHeartbeats 2000000 in
set_option maxRecDepth 100000 in
theorem hreftext_any (p : Option Addr) (len cap : Nat) (zs : List Int) (w : World) (h : Bs w p len zs) (hlen : len ≤ 70368744177663) :
    Calls Tryd.prog 38 #[.slice p len cap] w fun e w' => e = .returned (.string (strOfNums (hexs zs))) ∧ Below w.heap.size w w' := by
  have H := Lib.hid h
  have HL := Lib.hid h.len
  clear h
  go_enter Tryd.func38, Tryd.ntmps38
  go_wp2
  go_loopw [3, 4] (fun v i wr => ∃ k : Nat, k ≤ len ∧ i = .int .i64 k ∧ Hid (Ob wr w.heap.size 5 v (hexs (zs.take k))) ∧ Hid (Below w.heap.size w wr)) (fun _ i _ => len - (intOf i).toNat)
  case atStart => exact ⟨0, Nat.zero_le _, rfl, Lib.hid (by simpa [hexs] using Ob.nil _ _ _), Lib.hid (Below.refl _ _)⟩
  case round =>
    obtain ⟨k, hk, rfl, hu, hbl⟩ := hrel
    by_cases hlt : k < len
    · obtain ⟨y, hy⟩ : ∃ y, zs.getD k 0 = y := ⟨_, rfl⟩
      have hyb := H.out.byte k
      obtain ⟨b0, off, rfl, HC⟩ : ∃ b0 off, p = some ⟨b0, off, none⟩ ∧ Hid (∀ W, Below w.heap.size w W → W.cell? ⟨b0, off + k, none⟩ = some (.int .u8 y)) := by
        rcases H.out.2.2 with hc | ⟨b0, off, rfl, hc⟩
        · omega
        · refine ⟨b0, off, rfl, Lib.hid fun W hW => ?_⟩
          rw [hW.cell (World.block_lt_of_cell? w _ (hc k hlt)), hc k hlt, hy]
      have hck := HC.out _ hbl.out
      rw [hy] at hyb
      have HY := Lib.hid hy
      clear hy
      have hf1 := hfig_bd (n := y / 16) (by omega) (by omega)
      have hf2 := hfig_bd (n := y % 16) (by omega) (by omega)
      have HT := Lib.hid (hexs_take (zs := zs) (k := k) (by rw [HL.out]; exact hlt))
      have hl0 : (hexs (zs.take k)).length = 2 * k := by rw [hexs_length, List.length_take, HL.out]; omega
      have hl1 : (hexs (zs.take k)).length + 2 ≤ 140737488355328 := by omega
      have hs := hbl.out.size
      have hd1 : 0 ≤ y / 16 ∧ y / 16 < 16 := by omega
      have hd2 : 0 ≤ y % 16 ∧ y % 16 < 16 := by omega
      have hq1 : IntKind.u8.wrap (y.tdiv 16) = y / 16 := by rw [Int.tdiv_eq_ediv_of_nonneg hyb.1]; exact wrap_u8_in (by omega) (by omega)
      have hq2 : y.tmod 16 = y % 16 := Int.tmod_eq_emod_of_nonneg hyb.1
      have c1 : wr.drew.cell? ⟨b0, off + k, none⟩ = some (.int .u8 y) := hck
      have hW : Below w.heap.size w (wr.alloc (.cells #[.int .u8 (hfig (y / 16)), .int .u8 (hfig (y % 16))] 5)).drew := (hbl.out.alloc hs _).drew
      have HW := Lib.hid hW
      have c2 := HC.out _ hW
      have hs2 := hW.size
      have HO : Hid (Ob (wr.alloc (.cells #[.int .u8 (hfig (y / 16)), .int .u8 (hfig (y % 16))] 5)).drew w.heap.size 5 u3 (hexs (zs.take k))) := Lib.hid (hu.out.later (((Below.refl _ _).alloc (Nat.le_refl _) _).drew))
      have HN : Hid (Bs (wr.alloc (.cells #[.int .u8 (hfig (y / 16)), .int .u8 (hfig (y % 16))] 5)).drew (some ⟨wr.heap.size, 0, none⟩) 2 [hfig (y / 16), hfig (y % 16)]) := Lib.hid (bs_two wr _ _ _ hf1.1 hf1.2 hf2.1 hf2.2)
      have hpc : (some (⟨wr.heap.size, 0, none⟩ : Addr)) = none → 2 = 0 := by simp
      have HP := Lib.hid hpc
      clear hW hpc
      go_wp2
      go_region_held3 (fun W => W.cell? ⟨b0, off + k, none⟩ = some (.int .u8 y)) (first | exact c1 | exact c2 | exact c4 | assumption) (first
        | (go_at_call 48; refine (hfigure_any _ _ (by first | with_reducible exact hd1.1 | with_reducible exact hd2.1) (by first | with_reducible exact hd1.2 | with_reducible exact hd2.2)).mono ?_; rintro e w' ⟨rfl, rfl⟩)
        | (refine step_append_bytes rfl _ _ 23 5 rfl Tryd.underlying23 info8 w.heap.size _ (hexs (zs.take k)) rfl HO.out (some ⟨wr.heap.size, 0, none⟩) 2 2 [hfig (y / 16), hfig (y % 16)] rfl HN.out HP.out hl1 hs2 ?_; intro v' w' hob' hg'; have HO' := Lib.hid hob'; have HB' := Lib.hid (below_new HW.out HO.out hg' hs2); have c4 := HC.out _ HB'.out; clear hob' hg'))
      go_wp2
      refine ⟨⟨k + 1, by omega, by go_num, ?_, HB'⟩, by simp [intOf]; omega⟩
      rw [HT.out, HY.out]
      exact HO'
    · have e : k = len := by omega
      subst e
      have hu' := hu.out
      rw [← HL.out, List.take_length] at hu'
      obtain ⟨q, c, hv, _, _, hbs, _⟩ := hu'.open
      subst hv
      have hcv := hbs.run_string (P := Tryd.prog) 23 5 9 Tryd.underlying23 Tryd.underlying5 Tryd.underlying9 c
      clear hu' hbs hu
      go_wp2
      go_ret
      exact ⟨rfl, hbl.out⟩
end Go.Proofs.YtahjofjblhpndaaDoor
