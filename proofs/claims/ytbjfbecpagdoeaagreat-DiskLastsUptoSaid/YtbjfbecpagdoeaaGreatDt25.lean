/- Layer 11, the reference: find, without, put -/
import Derived.Test.YtbjfbecpagdoeaaGreatDt12
import Derived.Laws.Cover1
namespace Go.Proofs.YtbjfbecpagdoeaaGreat
set_option linter.unusedVariables false
open Go.RowKit Go.Lib

/-- what a look-up gives -/
def fndV (o : Option Int) : Value := .tuple #[.int .i64 (o.getD 0), .bool o.isSome]
theorem find_drop {L : List Nd} {k : Nat} (h : k < L.length) (s : ByteArray) : findP (L.drop k) s = if (L.getD k nd0).s = s then some (L.getD k nd0).id else findP (L.drop (k + 1)) s := by
  rw [List.drop_eq_getElem_cons h, List.getD_eq_getElem?_getD, List.getElem?_eq_getElem h]
  rfl
set_option maxRecDepth 100000 in
theorem rfind_any (p : Option Addr) (n c : Nat) (L : List Nd) (s : ByteArray) (w : World) (h : Gs encN w p n L) (hn : n ≤ 2097152) :
    Calls Tryz.prog 67 #[.slice p n c, .string s] w fun e w' => e = .returned (fndV (findP L s)) ∧ w = w' := by
  have H := Lib.hid h
  have HL := Lib.hid h.1
  clear h
  go_enter Tryz.func67, Tryz.ntmps67
  go_wp2
  go_loopw [6] (fun i wr => ∃ k : Nat, k ≤ n ∧ i = .int .i64 (k : Int) ∧ Hid (findP L s = findP (L.drop k) s) ∧ w = wr) (fun i _ => n - (intOf i).toNat)
  case atStart => exact ⟨0, by omega, rfl, Lib.hid (by simp), rfl⟩
  case round =>
    obtain ⟨k, hk, rfl, HO, rfl⟩ := hrel
    by_cases hlt : k < n
    · obtain ⟨b, off, rfl, c0, c1⟩ := H.out.nd k hlt
      have HS := Lib.hid (find_drop (L := L) (k := k) (by rw [HL.out]; exact hlt) s)
      have hkn : (k : Int) < (n : Int) := by omega
      have hk0 : (0 : Int) ≤ (k : Int) := by omega
      generalize L.getD k nd0 = y at *
      obtain ⟨ys, yi⟩ := y
      dsimp only at c0 c1 HS
      by_cases he : ys = s
      · have h1 := sq_true he
        have HF : Hid (findP L s = some yi) := Lib.hid (by rw [HO.out, HS.out, if_pos he])
        clear HS HO he
        go_wp2
        go_ret2
        exact ⟨by rw [HF.out]; rfl, rfl⟩
      · have h1 := sq_false he
        have HF : Hid (findP L s = findP (L.drop (k + 1)) s) := Lib.hid (by rw [HO.out, HS.out, if_neg he])
        clear HS HO he
        go_wp2
        exact ⟨⟨k + 1, by omega, by go_num, HF, trivial⟩, by simp [intOf] <;> omega⟩
    · obtain rfl : k = n := by omega
      have HF : Hid (findP L s = none) := Lib.hid (by
        have h := HO.out
        rw [List.drop_of_length_le (by rw [HL.out]; omega)] at h
        exact h)
      go_wp2
      go_ret2
      exact ⟨by rw [HF.out]; rfl, rfl⟩

theorem out_drop {L : List Nd} {k : Nat} (h : k < L.length) (s : ByteArray) : outP (L.drop k) s = (if (L.getD k nd0).s = s then [] else [L.getD k nd0]) ++ outP (L.drop (k + 1)) s := by
  rw [List.drop_eq_getElem_cons h, List.getD_eq_getElem?_getD, List.getElem?_eq_getElem h]
  unfold outP
  rw [List.filter_cons]
  dsimp only [Option.getD_some]
  by_cases e : L[k].s = s
  · rw [if_pos e, if_neg (by simp [e])]; rfl
  · rw [if_neg e, if_pos (by simp [e])]; rfl
set_option maxRecDepth 100000 in
set_option maxHeartbeats 1000000 in
theorem rwithout_any (p : Option Addr) (n c : Nat) (L : List Nd) (s : ByteArray) (w : World) (h : Gs encN w p n L) (hn : n ≤ 1048576) :
    Calls Tryz.prog 94 #[.slice p n c, .string s] w fun e w' => ∃ v, e = .returned v ∧ Gw encN w' w.heap.size v (outP L s) ∧ Below w.heap.size w w' := by
  have H := Lib.hid h
  have HL := Lib.hid h.1
  have HB0 := Lib.hid (Below.refl w.heap.size w)
  have HO0 := Lib.hid (Gw.nil encN w w.heap.size)
  have HLN : Hid ((outP L s).length ≤ 1048576) := Lib.hid (Nat.le_trans (outP_length _ _) (by rw [h.1]; exact hn))
  clear h
  go_enter Tryz.func94, Tryz.ntmps94
  go_wp2
  go_loopw [5, 6] (fun v i wr => ∃ (k : Nat) (o : List Nd), k ≤ n ∧ i = .int .i64 (k : Int) ∧ Hid (Gw encN wr w.heap.size v o) ∧ Hid (o ++ outP (L.drop k) s = outP L s) ∧ Hid (Below w.heap.size w wr)) (fun _ i _ => n - (intOf i).toNat)
  case atStart => exact ⟨0, [], by omega, rfl, HO0, Lib.hid (by simp), HB0⟩
  case round =>
    clear HO0 HB0
    obtain ⟨k, o, hk, rfl, HO, HE, HB⟩ := hrel
    by_cases hlt : k < n
    · obtain ⟨b, off, rfl, c0, c1⟩ := (H.out.later HB.out).nd k hlt
      have HS := Lib.hid (out_drop (L := L) (k := k) (by rw [HL.out]; exact hlt) s)
      have hkn : (k : Int) < (n : Int) := by omega
      have hk0 : (0 : Int) ≤ (k : Int) := by omega
      generalize L.getD k nd0 = y at *
      obtain ⟨ys, yi⟩ := y
      dsimp only at c0 c1 HS
      by_cases he : ys = s
      · have h1 := sq_true he
        have HF : Hid (o ++ outP (L.drop (k + 1)) s = outP L s) := Lib.hid (by have := HE.out; rw [HS.out, if_pos he, List.nil_append] at this; exact this)
        clear HS HE he
        go_wp2
        refine ⟨?_, by simp [intOf]; omega⟩
        first
          | exact ⟨k + 1, o, by omega, by go_num, HO, HF, HB⟩
          | ((repeat apply Exists.intro); refine ⟨?_, rfl⟩; exact ⟨k + 1, o, by omega, by go_num, HO, HF, HB⟩)
      · have h1 := sq_false he
        have HF : Hid ((o ++ [⟨ys, yi⟩]) ++ outP (L.drop (k + 1)) s = outP L s) := Lib.hid (by have := HE.out; rw [HS.out, if_neg he] at this; rw [← this]; simp)
        have HZ : Hid (o.length + 1 ≤ 2097152) := Lib.hid (by have h2 := HLN.out; rw [← HF.out] at h2; simp at h2; omega)
        have HN1 := Lib.hid (Gs.one encN wr ⟨ys, yi⟩ #[.string ys, .int .i64 yi] rfl 75 (0, 0))
        have HB1 := Lib.hid (below_allocF HB.out (.cells #[.string ys, .int .i64 yi] 75))
        have HO1 := Lib.hid (HO.out.alloc (.cells #[.string ys, .int .i64 yi] 75))
        clear HS HE he
        go_wp2_with (refine wpList_append_gen encN rfl (.tmp 20) (.tmp 25) 61 rfl Tryz.underlying61 nzero 24 infoN rfl (by decide) w.heap.size _ o rfl HO1.out _ 1 1 [⟨ys, yi⟩] rfl HN1.out (fun h => by cases h) HZ.out HB1.out.size ?_; intro v5 w5 ho5 hg5; have HO5 := Lib.hid ho5; have HB5 : Hid (Below w.heap.size w w5) := Lib.hid (below_new_gw HB1.out HO1.out hg5 HB1.out.size); clear ho5 hg5)
        refine ⟨?_, by simp [intOf]; omega⟩
        first
          | exact ⟨k + 1, _, by omega, by go_num, HO5, HF, HB5⟩
          | ((repeat apply Exists.intro); refine ⟨?_, rfl⟩; exact ⟨k + 1, _, by omega, by go_num, HO5, HF, HB5⟩)
    · obtain rfl : k = n := by omega
      have HF : Hid (o = outP L s) := Lib.hid (by
        have h := HE.out
        rw [List.drop_of_length_le (by rw [HL.out]; omega)] at h
        simpa [outP] using h)
      go_wp2
      go_ret
      exact ⟨_, rfl, by rw [← HF.out]; exact HO.out, HB.out⟩
end Go.Proofs.YtbjfbecpagdoeaaGreat
