/- Row: cloned, sorted, each once -/
import Derived.Test.YtpfbfhigelbfcaaGreatSd45
import Derived.Test.YtpfbfhigelbfcaaGreatSd46
import Derived.Lib.SliceRun
set_option linter.unusedSimpArgs false
set_option linter.unusedVariables false
namespace Go.Proofs.YtpfbfhigelbfcaaGreat
open Go.RowKit Go.Lib Go.Shelf
theorem Od.empty (w : World) (B : Nat) (hB : B ≤ w.heap.size) : Od (w.alloc (.cells #[] 35)) B (.slice (some ⟨w.heap.size, 0, none⟩) 0 0) [] :=
 ⟨by simp, World.ownsRow_made w #[] 0 hB (Nat.zero_le _) (by simp)⟩
theorem Od.ptr' {w : World} {B n cap : Nat} {a : Addr} {L : List (List Int)} (h : Od w B (.slice (some a) n cap) L) : ∃ g, a = ⟨g, 0, none⟩ := by
 rcases h.2.2 with ⟨hv, h0⟩ | ⟨g, cap', cur, hv, _⟩
 ·cases hv
 ·simp only [Value.slice.injEq, Option.some.injEq] at hv; exact ⟨g, hv.1⟩
set_option maxRecDepth 100000 in
theorem clone_any (p : Option Addr) (n c : Nat) (L : List (List Int)) (w : World) (h : Ds w p n L) (hpc : p = none → c = 0) (hnc : n ≤ c) (hn : n ≤ 1048576) :
 Calls Tryz.prog 141 #[.slice p n c] w fun e w' => ∃ p' c', e = .returned (.slice p' n c') ∧ Od w' w.heap.size (.slice p' n c') L ∧ (p' = none → n = 0) ∧ Below w.heap.size w w' := by
 have H := Lib.hid h
 have HB0 : Hid (Below w.heap.size w (w.alloc (.cells #[] 35))) := Lib.hid ((Below.refl _ _).alloc (Nat.le_refl _) _)
 have HO0 := Lib.hid (Od.empty w w.heap.size (Nat.le_refl _))
 have hq : ∀ (w : World) (a : Option Addr) (n c n' c' : Nat), (binOp .eql 74 (.slice a n c) (.slice none n' c')).run Tryz.prog w = .ok (.bool a.isNone) w := fun w a n c n' c' => Lib.run_eql_slice_nil w _ _ a n c n' c' Tryz.underlying74
 cases p with
 | none =>
   obtain rfl := hpc rfl
   obtain rfl : n = 0 := by omega
   obtain rfl : L = [] := List.length_eq_zero_iff.1 h.1
   clear h hpc
   go_enter Tryz.func141, Tryz.ntmps141
   go_wp2
   go_ret
   exact ⟨none, 0, rfl, Od.nil _ _, by simp, Below.refl _ _⟩
 | some ad =>
   have HD := Lib.hid (h.later HB0.out)
   have HN := Lib.hid hn
   clear h hpc hnc hn
   have HZ : Hid ((([] : List (List Int)).length + n) * 32 ≤ 140737488355328) := Lib.hid (by have := HN.out; simp; omega)
   go_enter Tryz.func141, Tryz.ntmps141
   go_wp2_with (refine wpList_append_digs rfl (.tmp 5) (.tmp 6) 74 rfl Tryz.underlying74 info24 w.heap.size _ [] rfl HO0.out _ n c L rfl HD.out (fun h => by cases h) HZ.out HB0.out.size ?_; intro v5 w5 ho5 hg5; have HO5 := Lib.hid ho5; have HB5 : Hid (Below w.heap.size w w5) := Lib.hid (below_new_od HB0.out HO0.out hg5 HB0.out.size); clear ho5 hg5)
   go_ret
   have ho := HO5.out
   rw [List.nil_append] at ho
   obtain ⟨p', c', hv, _⟩ := ho.open
   have hl := H.out.1
   rw [hl] at hv
   subst hv
   refine ⟨p', c', rfl, ho, fun hp => ?_, HB5.out⟩
   by_cases h0 : n = 0
   ·exact h0
   ·obtain ⟨g, hg⟩ := ho.ptr (by omega)
    rw [hp] at hg; cases hg
set_option maxRecDepth 100000 in
theorem row_ok : RowOk := by
 intro p n cap L w h hpc hnc hcm hn
 have HC := Lib.hid (clone_any p n cap L w h hpc hnc hn)
 have HL : Hid (∀ x ∈ L, x.length = 32) := Lib.hid fun x hx => (h.2.1 x hx).1
 have HN := Lib.hid hn
 have HS := Lib.hid (Nat.le_refl w.heap.size)
 clear h hpc hnc hcm hn
 go_enter Tryz.func116, Tryz.ntmps116
 go_wp2_with fail
 refine HC.out.mono ?_
 rintro e w1 ⟨p1, c1, rfl, ho1, hp1, hb1⟩
 have HO1 := Lib.hid ho1
 have HB1 := Lib.hid hb1
 clear ho1 hb1
 cases p1 with
 | none =>
   obtain rfl := hp1 rfl
   have hl := HO1.out.len
   obtain rfl : L = [] := List.length_eq_zero_iff.1 hl
   have hcon := AnyF.slices_SortFunc_none sortD none c1 (.func (.func 143) #[] #[]) w1
   change Calls Tryz.prog 142 _ _ _ at hcon
   have HCON := Lib.hid hcon
   clear hcon hl hp1
   go_wp2_with fail
   refine HCON.out.mono ?_
   rintro e w2 ⟨rfl, rfl⟩
   go_wp2_with fail
   refine (compact_any w.heap.size none 0 c1 [] _ HO1.out (fun i j _ hj => by simp at hj) HB1.out.size (by omega)).mono ?_
   rintro e w3 ⟨v, rfl, ho3, hb3⟩
   have HO3 := Lib.hid ho3
   have HB3 := Lib.hid (HB1.out.trans hb3)
   clear ho3 hb3
   go_wp2
   go_ret
   exact ⟨_, rfl, HO3.out, HB3.out⟩
 | some a =>
   obtain ⟨g, rfl⟩ := HO1.out.ptr'
   clear hp1
   go_wp2_with fail
   refine (sort_any w.heap.size g n c1 L _ HO1.out HB1.out.size HN.out).mono ?_
   rintro e w2 ⟨rfl, L', ho2, hs2, hm2, hb2⟩
   have HO2 := Lib.hid ho2
   have HS2 := Lib.hid hs2
   have HM2 := Lib.hid hm2
   have HB2 := Lib.hid (HB1.out.trans hb2)
   clear ho2 hs2 hm2 hb2
   go_wp2_with fail
   refine (compact_any w.heap.size _ n c1 L' _ HO2.out HS2.out HB2.out.size HN.out).mono ?_
   rintro e w3 ⟨v, rfl, ho3, hb3⟩
   have HO3 := Lib.hid ho3
   have HB3 := Lib.hid (HB2.out.trans hb3)
   clear ho3 hb3
   go_wp2
   go_ret
   have e : drow L' = drow L := drises_ext (drow_rises fun x hx => (HL.out x ((HM2.out x).1 hx))) (drow_rises HL.out) fun x => by rw [drow_mem, drow_mem, HM2.out]
   exact ⟨_, rfl, by rw [← e]; exact HO3.out, HB3.out⟩
end Go.Proofs.YtpfbfhigelbfcaaGreat

