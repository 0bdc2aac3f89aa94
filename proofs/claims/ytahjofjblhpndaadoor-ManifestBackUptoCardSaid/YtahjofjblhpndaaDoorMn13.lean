/- Walks of package hex: nibble; Walks of package hex: Read; Walks of the reference of layer 3: worth, Read -/
import Derived.Test.YtahjofjblhpndaaDoorMn2
import Derived.Test.YtahjofjblhpndaaDoorMn12
import Derived.Laws.RangeAny
import Derived.Lib.OthersKept
set_option linter.unusedSimpArgs false
set_option linter.unusedVariables false
namespace Go.Proofs.YtahjofjblhpndaaDoor
set_option linter.unusedVariables false
open Go.RowKit Go.Lib

theorem digit_at (k : Nat) (hk : k < 16) (h : k < (ByteArray.mk #[48, 49, 50, 51, 52, 53, 54, 55, 56, 57, 97, 98, 99, 100, 101, 102]).size) :
    ((((ByteArray.mk #[48, 49, 50, 51, 52, 53, 54, 55, 56, 57, 97, 98, 99, 100, 101, 102])[k]'h).toNat : Nat) : Int) = hfig (k : Int) := by
  have hk' : k = 0 ∨ k = 1 ∨ k = 2 ∨ k = 3 ∨ k = 4 ∨ k = 5 ∨ k = 6 ∨ k = 7 ∨ k = 8 ∨ k = 9 ∨ k = 10 ∨ k = 11 ∨ k = 12 ∨ k = 13 ∨ k = 14 ∨ k = 15 := by omega
  rcases hk' with rfl | rfl | rfl | rfl | rfl | rfl | rfl | rfl | rfl | rfl | rfl | rfl | rfl | rfl | rfl | rfl <;> rfl

theorem run_next_digit {P : Program} (w : World) (k : Nat) (hk : k < 16) (ty : TypeId) :
    (Instr.next (.pointer (some ⟨w.heap.size, 0, none⟩)) true ty).run P (w.iter { data := #[48, 49, 50, 51, 52, 53, 54, 55, 56, 57, 97, 98, 99, 100, 101, 102] } k) =
      .ok (.tuple #[.bool true, .int .i64 k, .int .i32 (hfig k)]) (w.iter { data := #[48, 49, 50, 51, 52, 53, 54, 55, 56, 57, 97, 98, 99, 100, 101, 102] } (k + 1)) := by
  have hs : k < (ByteArray.mk #[48, 49, 50, 51, 52, 53, 54, 55, 56, 57, 97, 98, 99, 100, 101, 102]).size := hk
  have hd := digit_at k hk hs
  have hb := hfig_bd (n := k) (by omega) (by omega)
  have ha : ((ByteArray.mk #[48, 49, 50, 51, 52, 53, 54, 55, 56, 57, 97, 98, 99, 100, 101, 102])[k]'hs).toNat < 128 := by
    have : hfig (k : Int) < 128 := by unfold hfig; split <;> omega
    omega
  rw [run_next_ascii w _ k ty hs ha, hd]

theorem hwor_none {r : Int} (h : ∀ j : Nat, j < 16 → hfig j ≠ r) : hwor r = 16 := by
  have b := hwor_bd r
  apply Classical.byContradiction
  intro hne
  have e := hfig_hwor hne
  have := h (hwor r).toNat (by omega)
  rw [Int.toNat_of_nonneg b.1] at this
  exact this e

def hnib (r : Int) : Int := if hwor r = 16 then 0 else hwor r
def hyes (r : Int) : Bool := decide (hwor r ≠ 16)
theorem hnib_yes {r : Int} {k : Nat} (h : hwor r = k) (hk : k < 16) : hnib r = k ∧ hyes r = true := by
  unfold hnib hyes
  rw [if_neg (by omega), h]
  exact ⟨rfl, by simp; omega⟩
theorem hnib_no {r : Int} (h : hwor r = 16) : hnib r = 0 ∧ hyes r = false := by
  unfold hnib hyes
  rw [if_pos h]
  exact ⟨rfl, by simp [h]⟩
theorem ret_nib {a b : Int} {c d : Bool} (h : a = b ∧ c = d) : Ending.returned (.tuple #[.int .u8 a, .bool c]) = .returned (.tuple #[.int .u8 b, .bool d]) := by rw [h.1, h.2]

set_option maxRecDepth 100000 in
theorem hnibble_any (r : Int) (w : World) :
    Calls Tryd.prog 63 #[.int .i32 r] w fun e w' => e = .returned (.tuple #[.int .u8 (hnib r), .bool (hyes r)]) ∧ Below w.heap.size w w' := by
  go_enter Tryd.func63, Tryd.ntmps63
  go_wp2
  go_loopw [2] (fun v wr => ∃ k : Nat, k ≤ 16 ∧ v = .int .u8 0 ∧ wr = w.iter { data := #[48, 49, 50, 51, 52, 53, 54, 55, 56, 57, 97, 98, 99, 100, 101, 102] } k ∧ Hid (∀ j : Nat, j < k → hfig j ≠ r)) (fun _ wr => 16 - wr.iterPos w.heap.size)
  case atStart => exact ⟨0, by omega, rfl, rfl, Lib.hid (fun j hj => by omega)⟩
  case round =>
    obtain ⟨k, hk, rfl, rfl, hno⟩ := hrel
    by_cases hlt : k < 16
    · have hnx := fun ty => run_next_digit (P := Tryd.prog) w k hlt ty
      by_cases he : hfig (k : Int) = r
      · have hw : hwor r = k := by rw [← he]; exact hwor_hfig (by omega) (by omega)
        have hb : (hfig (k : Int) == r) = true := by simpa using he
        have HW := Lib.hid hw
        clear hw he hno
        go_wp2
        go_ret2
        have e2 := hnib_yes HW.out hlt
        exact ⟨ret_nib ⟨e2.1.symm, e2.2.symm⟩, (Below.refl _ _).alloc (Nat.le_refl _) _⟩
      · have hb : (hfig (k : Int) == r) = false := by simpa using he
        have HE : Hid (∀ j : Nat, j < k + 1 → hfig j ≠ r) := Lib.hid fun j hj => by
          by_cases h : j < k
          · exact hno.out j h
          · obtain rfl : j = k := by omega
            exact he
        clear he hno
        go_wp2
        refine ⟨⟨k + 1, by omega, rfl, rfl, HE⟩, by simp; omega⟩
    · have hnx := fun ty => run_next_end (P := Tryd.prog) w { data := #[48, 49, 50, 51, 52, 53, 54, 55, 56, 57, 97, 98, 99, 100, 101, 102] } k ty (by have : ByteArray.size { data := #[48, 49, 50, 51, 52, 53, 54, 55, 56, 57, 97, 98, 99, 100, 101, 102] } = 16 := rfl; omega)
      obtain rfl : k = 16 := by omega
      have e2 := hnib_no (hwor_none hno.out)
      have HN := Lib.hid e2
      clear e2
      go_wp2
      go_ret2
      exact ⟨ret_nib ⟨HN.out.1.symm, HN.out.2.symm⟩, (Below.refl _ _).alloc (Nat.le_refl _) _⟩
end Go.Proofs.YtahjofjblhpndaaDoor

namespace Go.Proofs.YtahjofjblhpndaaDoor
set_option linter.unusedVariables false
open Go.RowKit Go.Lib

/-- What a rune is worth, and how long it is, by its first byte. -/
theorem decode_wor (s : ByteArray) (pos : Nat) (h : pos < s.size) : hwor ((Utf8.decode s pos).1 : Nat) = hwor ((numsOf s).getD pos 0) ∧ (hwor ((numsOf s).getD pos 0) ≠ 16 → (Utf8.decode s pos).2 = 1) := by
  rw [numsOf_getD s pos h]
  by_cases ha : (s[pos]'h).toNat < 128
  · rw [decode_ascii s pos h ha]
    exact ⟨rfl, fun _ => rfl⟩
  · have hd := (decode_high s pos h (by omega)).1
    have e1 : ∀ c : Int, 128 ≤ c → hwor c = 16 := fun c hc => by unfold hwor; rw [if_neg (by omega), if_neg (by omega)]
    rw [e1 _ (by omega), e1 _ (by omega)]
    exact ⟨rfl, fun h => absurd rfl h⟩

theorem hrd_odd {cs : List Int} (h : cs.length % 2 ≠ 0) : hrd cs = none := by
  unfold hrd
  rw [if_neg (fun hc => h hc.1)]
theorem hrd_bad {cs : List Int} {k : Nat} (hk : k < cs.length) (h : hwor (cs.getD k 0) = 16) : hrd cs = none := by
  unfold hrd
  rw [if_neg (fun hc => hc.2 k hk h)]
theorem hrd_good {cs : List Int} (h0 : cs.length % 2 = 0) (h : hgood cs cs.length) : hrd cs = some (hread cs (cs.length / 2) cs.length) := by
  unfold hrd
  rw [if_pos ⟨h0, h⟩]
theorem hgood_step {cs : List Int} {k : Nat} (h : hgood cs k) (h1 : hwor (cs.getD k 0) ≠ 16) : hgood cs (k + 1) := by
  intro j hj
  by_cases e : j = k
  · subst e; exact h1
  · exact h j (by omega)

theorem hcell_lt {cs : List Int} {k : Nat} (h : hgood cs k) : 0 ≤ hcell cs k (k / 2) ∧ hcell cs k (k / 2) < 16 := by
  unfold hcell
  rw [if_neg (by omega)]
  split
  · have b := hwor_bd (cs.getD (2 * (k / 2)) 0)
    have g := h (2 * (k / 2)) (by omega)
    omega
  · omega
theorem hnib_is {r n : Int} (h : hwor r = n) (h1 : n ≠ 16) : hnib r = n ∧ hyes r = true := by
  unfold hnib hyes
  rw [if_neg (by omega), h]
  exact ⟨rfl, by simpa using h1⟩

theorem bits_or_nibble {x n : Int} (h0 : 0 ≤ x) (h1 : x < 16) (h2 : 0 ≤ n) (h3 : n < 16) : bits BinOp.or IntKind.u8 (x * 16) n = x * 16 + n := by
  have key : ∀ a : Fin 16, ∀ b : Fin 16, bits BinOp.or IntKind.u8 (((a.val : Nat) : Int) * 16) ((b.val : Nat) : Int) = ((a.val : Nat) : Int) * 16 + ((b.val : Nat) : Int) := by decide +kernel
  obtain ⟨a, rfl⟩ := Int.eq_ofNat_of_zero_le h0
  obtain ⟨b, rfl⟩ := Int.eq_ofNat_of_zero_le h2
  exact key ⟨a, by omega⟩ ⟨b, by omega⟩
theorem iterPos_of {w : World} {k p : Nat} {s : ByteArray} (h : w.heap[k]? = some (.stringIter s p)) : w.iterPos k = p := by
  simp [World.iterPos, h]
theorem setCell_other {w : World} {g j k : Nat} (v : Value) (h : g ≠ k) : (w.setCell ⟨g, j, none⟩ v).heap[k]? = w.heap[k]? := by
  simp [World.setCell, Array.getElem?_modify, h]

set_option maxRecDepth 100000 in
theorem hread_any (s : ByteArray) (w : World) (hs : s.size ≤ 281474976710656) :
    Calls Tryd.prog 50 #[.string s] w fun e w' => ((hrd (numsOf s) = none ∧ e = .returned (.tuple #[.slice none 0 0, .int .i64 3])) ∨ (∃ ys v, hrd (numsOf s) = some ys ∧ e = .returned (.tuple #[v, .int .i64 0]) ∧ Ob w' w.heap.size 5 v ys)) ∧ Below w.heap.size w w' := by
  by_cases hodd : s.size % 2 = 0
  · have hmod : (((s.size : Int).tmod 2) != 0) = false := by rw [Int.tmod_eq_emod_of_nonneg (by omega)]; simp; omega
    have hmod' : (((s.size : Int) % 2) != 0) = false := by simp; omega
    obtain ⟨m, hm⟩ : ∃ m, s.size / 2 = m := ⟨_, rfl⟩
    have hm1 : m ≤ 281474976710656 := by omega
    have hm2 : Hid ((s.size : Int) / 2 = (m : Int)) := Lib.hid (by omega)
    have hm3 : Hid (s.size = 2 * m) := Lib.hid (by omega)
    clear hm hodd
    go_enter Tryd.func50, Tryd.ntmps50
    go_wp2_with (refine wpList_make_bytes _ rfl _ _ 23 5 rfl Tryd.underlying23 info8 .i64 .i64 _ _ m m rfl rfl hm2.out hm2.out (Nat.le_refl _) hm1 ?_; intro w1 hob1 hg1; have hb1 := below_none hg1; have HB := Lib.hid hb1; have HOB := Lib.hid hob1; clear hb1 hob1 hg1)
    go_loopw [5] (fun _ wr => ∃ k : Nat, k ≤ s.size ∧ Hid (wr.heap[w1.heap.size]? = some (.stringIter s k)) ∧ Hid (Ob wr w.heap.size 5 (.slice (some ⟨w.heap.size, 0, none⟩) m m) (hread (numsOf s) m k)) ∧ Hid (hgood (numsOf s) k) ∧ Hid (Below w.heap.size w wr)) (fun _ wr => s.size - wr.iterPos w1.heap.size)
    case atStart =>
      refine ⟨0, Nat.zero_le _, Lib.hid (w1.iter_heap s 0), Lib.hid ?_, Lib.hid (fun j hj => by omega), Lib.hid (HB.out.alloc HB.out.size _)⟩
      rw [hread_zero]
      exact HOB.out.alloc _
    case round =>
      have hs1 : w.heap.size < w1.heap.size := HOB.out.block_own.2
      obtain ⟨k, hk, hit, hob, hgd, hbl⟩ := hrel
      by_cases hlt : k < s.size
      · have hnx := fun ty => run_next_any_at (P := Tryd.prog) wr w1.heap.size s k ty hit.out hlt
        have hw := decode_wor s k hlt
        have HPOS := Lib.hid (iterPos_of hit.out)
        have hit2 := iterAt_heap wr w1.heap.size s k (k + (Utf8.decode s k).2) hit.out
        have hbl2 : Below w.heap.size w (wr.iterAt w1.heap.size s (k + (Utf8.decode s k).2)) := below_iterAt hbl.out (Nat.le_of_lt hs1) _ _
        have hob2 := hob.out.moved (iterAt_other wr w1.heap.size w.heap.size s (k + (Utf8.decode s k).2) (by omega))
        have hitlt : w1.heap.size < (wr.iterAt w1.heap.size s (k + (Utf8.decode s k).2)).heap.size := (Array.getElem?_eq_some_iff.1 hit2).1
        generalize (Utf8.decode s k).1 = r at *
        generalize hwd : (Utf8.decode s k).2 = wd at *
        generalize hwi : wr.iterAt w1.heap.size s (k + wd) = wi at *
        have HIT := Lib.hid hit2
        have HBL := Lib.hid hbl2
        have HOB2 := Lib.hid hob2
        clear hit2 hbl2 hob2 hwi hit hob hbl
        obtain ⟨hw1, hw2⟩ := hw
        by_cases hbad : hwor ((numsOf s).getD k 0) = 16
        · have hyn := hnib_no (hw1.trans hbad)
          have HR := Lib.hid (hrd_bad (by rw [numsOf_length]; exact hlt) hbad)
          clear hw1 hw2 hbad hwd
          go_wp2_with fail
          refine (hnibble_any _ _).mono ?_
          rintro e w2 ⟨rfl, hb2⟩
          rw [hyn.1, hyn.2]
          have HB2 := Lib.hid (below_step HBL.out hb2)
          clear hb2 hyn
          go_wp2
          go_ret2
          exact ⟨Or.inl ⟨HR.out, rfl⟩, HB2.out⟩
        · have hwd1 := hw2 hbad
          subst hwd1
          have HG := Lib.hid (hgood_step hgd.out hbad)
          have hyn := hnib_is hw1 hbad
          have hx := hcell_lt hgd.out
          have hset := hread_set (numsOf s) m k (by rw [← hm3.out]; exact hlt)
          have hnb := hwor_bd ((numsOf s).getD k 0)
          have hj : k / 2 < m := by have := hm3.out; omega
          have hcd := hread_getD (numsOf s) m k (k / 2) hj
          generalize hcell (numsOf s) k (k / 2) = x at *
          generalize hwor ((numsOf s).getD k 0) = n at *
          have hn16 : n < 16 := by omega
          have HS := Lib.hid hset
          clear hw1 hw2 hbad hset hgd
          go_wp2_with fail
          refine (hnibble_any _ _).mono ?_
          rintro e w2 ⟨rfl, hb2⟩
          rw [hyn.1, hyn.2]
          have HB2 := Lib.hid (below_step HBL.out hb2)
          have hit2 : w2.heap[w1.heap.size]? = some (.stringIter s (k + 1)) := (hb2.block _ hitlt).trans HIT.out
          have HIT2 := Lib.hid hit2
          have hob3 := HOB2.out.later hb2
          obtain ⟨hcell, hfrz⟩ := hob3.cell (k / 2) hj
          rw [hcd] at hcell
          have HOB3 := Lib.hid hob3
          have hjb : (k : Int) / 2 < (m : Int) := by omega
          clear hb2 hyn hit2 hob3 hcd
          go_wp2
          rw [bits_or_nibble hx.1 hx.2 hnb.1 hn16]
          have hit3 := (setCell_other (w := w2) (g := w.heap.size) (j := k / 2) (.int .u8 (x * 16 + n)) (Nat.ne_of_lt hs1)).trans HIT2.out
          refine ⟨⟨k + 1, hlt, Lib.hid hit3, Lib.hid ?_, HG, Lib.hid (HB2.out.setCell (p := ⟨w.heap.size, k / 2, none⟩) (Nat.le_refl _) _)⟩, ?_⟩
          · rw [← HS.out]
            exact HOB3.out.set (k / 2) hj _ (by omega) (by omega)
          · rw [iterPos_of hit3, HPOS.out]
            omega
      · have hnx := fun ty => run_next_end_at (P := Tryd.prog) wr w1.heap.size s k ty hit.out hlt
        have hks : k = s.size := by omega
        subst hks
        have HR := Lib.hid (hrd_good (cs := numsOf s) (by rw [numsOf_length, hm3.out]; omega) (by rw [numsOf_length]; exact hgd.out))
        have hl : (numsOf s).length / 2 = m := by rw [numsOf_length, hm3.out]; omega
        have hob' := hob.out
        rw [hl, numsOf_length] at HR
        have HOB2 := Lib.hid hob'
        clear hob' hl hit hob hgd
        go_wp2
        go_ret2
        exact ⟨Or.inr ⟨_, _, HR.out, rfl, HOB2.out⟩, hbl.out⟩
  · have hmod : (((s.size : Int).tmod 2) != 0) = true := by rw [Int.tmod_eq_emod_of_nonneg (by omega)]; simp; omega
    have hmod' : (((s.size : Int) % 2) != 0) = true := by simp; omega
    have HR := Lib.hid (hrd_odd (cs := numsOf s) (by rw [numsOf_length]; exact hodd))
    clear hodd
    go_enter Tryd.func50, Tryd.ntmps50
    go_wp2
    go_ret2
    exact ⟨Or.inl ⟨HR.out, rfl⟩, Below.refl _ _⟩
end Go.Proofs.YtahjofjblhpndaaDoor

namespace Go.Proofs.YtahjofjblhpndaaDoor
set_option linter.unusedVariables false
open Go.RowKit Go.Lib

theorem hworth_any (c : Int) (w : World) (h0 : 0 ≤ c) (h1 : c < 256) :
    Calls Tryd.prog 52 #[.int .u8 c] w fun e w' => e = .returned (.int .u8 (hwor c)) ∧ w' = w := by
  by_cases a1 : 48 ≤ c ∧ c ≤ 57
  · have e : hwor c = c - 48 := by unfold hwor; rw [if_pos a1]
    obtain ⟨a2, a3⟩ := a1
    rw [e]
    go_enter Tryd.func52, Tryd.ntmps52
    go_wp2
    go_ret
    exact ⟨rfl, rfl⟩
  · by_cases b1 : 97 ≤ c ∧ c ≤ 102
    · have e : hwor c = c - 87 := by unfold hwor; rw [if_neg a1, if_pos b1]
      obtain ⟨b2, b3⟩ := b1
      have a2 : 48 ≤ c := by omega
      have a3 : decide (c ≤ 57) = false := by simp; omega
      have a4 : IntKind.u8.wrap (c - 97) = c - 97 := wrap_u8_in (by omega) (by omega)
      rw [e]
      clear a1
      go_enter Tryd.func52, Tryd.ntmps52
      go_wp2
      go_ret
      exact ⟨ret_int (by omega), rfl⟩
    · have e : hwor c = 16 := by unfold hwor; rw [if_neg a1, if_neg b1]
      rw [e]
      by_cases a2 : 48 ≤ c
      · have a3 : decide (c ≤ 57) = false := by simp; omega
        by_cases b2 : 97 ≤ c
        · have b3 : decide (c ≤ 102) = false := by simp; omega
          clear a1 b1 e
          go_enter Tryd.func52, Tryd.ntmps52
          go_wp2
          go_ret
          exact ⟨rfl, rfl⟩
        · have b3 : decide (97 ≤ c) = false := by simp; omega
          clear a1 b1 e
          go_enter Tryd.func52, Tryd.ntmps52
          go_wp2
          go_ret
          exact ⟨rfl, rfl⟩
      · have a3 : decide (48 ≤ c) = false := by simp; omega
        have b3 : decide (97 ≤ c) = false := by simp; omega
        clear a1 b1 e
        go_enter Tryd.func52, Tryd.ntmps52
        go_wp2
        go_ret
        exact ⟨rfl, rfl⟩

theorem hread_app {cs : List Int} {i n : Nat} (he : i % 2 = 0) (hi : i + 1 < n) : hread cs ((i + 2) / 2) n = hread cs (i / 2) n ++ [hwor (cs.getD i 0) * 16 + hwor (cs.getD (i + 1) 0)] := by
  have e1 : (i + 2) / 2 = i / 2 + 1 := by omega
  have e2 : 2 * (i / 2) = i := by omega
  rw [e1, hread_two cs (i / 2) n (by omega), e2]

set_option maxRecDepth 100000 in
theorem hrefread_any (s : ByteArray) (w : World) (hs : s.size ≤ 140737488355328) :
    Calls Tryd.prog 43 #[.string s] w fun e w' => ((hrd (numsOf s) = none ∧ e = .returned (.tuple #[.slice none 0 0, .int .i64 3])) ∨ (∃ ys v, hrd (numsOf s) = some ys ∧ e = .returned (.tuple #[v, .int .i64 0]) ∧ Ob w' w.heap.size 5 v ys)) ∧ Below w.heap.size w w' := by
  by_cases hodd : s.size % 2 = 0
  · have hmod : (((s.size : Int).tmod 2) == 1) = false := by rw [Int.tmod_eq_emod_of_nonneg (by omega)]; simp; omega
    have hmod' : (((s.size : Int) % 2) == 1) = false := by simp; omega
    have HODD := Lib.hid hodd
    clear hodd
    go_enter Tryd.func43, Tryd.ntmps43
    go_wp2
    go_loopw [4, 5] (fun v i wr => ∃ k : Nat, k ≤ s.size ∧ i = .int .i64 k ∧ Hid (k % 2 = 0) ∧ Hid (Ob wr w.heap.size 5 v (hread (numsOf s) (k / 2) s.size)) ∧ Hid (hgood (numsOf s) k) ∧ Hid (Below w.heap.size w wr)) (fun _ i _ => s.size - (intOf i).toNat)
    case atStart => exact ⟨0, Nat.zero_le _, rfl, Lib.hid rfl, Lib.hid (Ob.nil _ _ _), Lib.hid (fun j hj => by omega), Lib.hid (Below.refl _ _)⟩
    case round =>
      obtain ⟨k, hk, rfl, hev, hob, hgd, hbl⟩ := hrel
      by_cases hlt : k + 1 < s.size
      · have hlt' : (k : Int) + 1 < (s.size : Int) := by omega
        have hx1 := fun W => run_index_nums W s k (by omega)
        have hx2 := fun W => run_index_nums W s (k + 1) hlt
        rw [show ((k + 1 : Nat) : Int) = (k : Int) + 1 by omega] at hx2
        have hb1 := numsOf_byte s k
        have hb2 := numsOf_byte s (k + 1)
        have HAP := Lib.hid (hread_app (cs := numsOf s) (n := s.size) hev.out hlt)
        have hw1 := hwor_bd ((numsOf s).getD k 0)
        have hw2 := hwor_bd ((numsOf s).getD (k + 1) 0)
        have HX1 := Lib.hid hx1
        have HX2 := Lib.hid hx2
        have hx3 := hx2
        rw [show (k : Int) + 1 = IntKind.i64.wrap ((k : Int) + 1) by rw [IntKind.wrap_i64]; omega] at hx3
        have HX3 := Lib.hid hx3
        have HRL : Hid ((hread (numsOf s) (k / 2) s.size).length = k / 2) := Lib.hid (hread_length _ _ _)
        have hRL : (hread (numsOf s) (k / 2) s.size).length + 1 ≤ 140737488355328 := by rw [hread_length]; omega
        clear hx1 hx2 hx3
        have HB1 : Hid (hwor ((numsOf s).getD k 0) = 16 → hrd (numsOf s) = none) := Lib.hid fun h => hrd_bad (by rw [numsOf_length]; omega) h
        have HB2 : Hid (hwor ((numsOf s).getD (k + 1) 0) = 16 → hrd (numsOf s) = none) := Lib.hid fun h => hrd_bad (by rw [numsOf_length]; omega) h
        have HG : Hid (hwor ((numsOf s).getD k 0) ≠ 16 → hwor ((numsOf s).getD (k + 1) 0) ≠ 16 → hgood (numsOf s) (k + 2)) := Lib.hid fun h1 h2 => hgood_step (hgood_step hgd.out h1) h2
        have hx1 := HX1.out
        have hx2 := HX2.out
        have hx3 := HX3.out
        generalize hc1 : (numsOf s).getD k 0 = c1 at *
        generalize hc2 : (numsOf s).getD (k + 1) 0 = c2 at *
        clear hc1 hc2
        have hs1 := hbl.out.size
        go_wp2
        go_quiet ((go_at_call 52; refine Calls.quiet_of_same (hworth_any _ _ (by first | with_reducible exact hb1.1 | with_reducible exact hb2.1) (by first | with_reducible exact hb1.2 | with_reducible exact hb2.2))))
        have hob' := hob.out.later (below_drewN (Below.refl _ _) nq)
        have hbl' := below_drewN hbl.out nq
        have hs1' := hbl'.size
        have HOB' := Lib.hid hob'
        have HBL' := Lib.hid hbl'
        clear hob' hbl' hob hbl
        generalize wr.drewN nq = wd at *
        generalize hwor c1 = n1 at *
        generalize hwor c2 = n2 at *
        by_cases h1 : n1 = 16
        · have HR := Lib.hid (HB1.out h1)
          have h15 : (15 : Int) < n1 := by omega
          clear h1
          go_wp2
          go_ret2
          exact ⟨Or.inl ⟨HR.out, rfl⟩, HBL'.out⟩
        · by_cases h2 : n2 = 16
          · have HR := Lib.hid (HB2.out h2)
            have h15 : decide ((15 : Int) < n1) = false := by simp; omega
            have h15' : (15 : Int) < n2 := by omega
            clear h1 h2
            go_wp2
            go_ret2
            exact ⟨Or.inl ⟨HR.out, rfl⟩, HBL'.out⟩
          · have h15 : decide ((15 : Int) < n1) = false := by simp; omega
            have h15' : decide ((15 : Int) < n2) = false := by simp; omega
            have HG2 := Lib.hid (HG.out h1 h2)
            have hv0 : 0 ≤ n1 * 16 + n2 := by omega
            have hv1 : n1 * 16 + n2 < 256 := by omega
            have HW1 := Lib.hid (HBL'.out.alloc hs1' (.cells #[.int .u8 (n1 * 16 + n2)] 5))
            have hs2 := HW1.out.size
            have HO1 : Hid (Ob (wd.alloc (.cells #[.int .u8 (n1 * 16 + n2)] 5)) w.heap.size 5 u4 (hread (numsOf s) (k / 2) s.size)) := Lib.hid (HOB'.out.alloc _)
            have HN1 := Lib.hid (bs_one wd (n1 * 16 + n2) 5 hv0 hv1)
            have hpc : (some (⟨wd.heap.size, 0, none⟩ : Addr)) = none → 1 = 0 := by simp
            have HP := Lib.hid hpc
            have HEV := Lib.hid (show (k + 2) % 2 = 0 by have := hev.out; omega)
            clear h1 h2 hpc
            go_wp2_with (refine wpList_append_bytes rfl _ _ 23 5 rfl Tryd.underlying23 info8 w.heap.size _ (hread (numsOf s) (k / 2) s.size) rfl HO1.out (some ⟨wd.heap.size, 0, none⟩) 1 1 [n1 * 16 + n2] rfl HN1.out HP.out hRL hs2 ?_; intro v' w' hob2 hg2; have HO2 := Lib.hid hob2; have HB3 := Lib.hid (below_new HW1.out HO1.out hg2 hs2); clear hob2 hg2)
            refine ⟨⟨k + 2, by omega, by go_num, HEV, ?_, HG2, HB3⟩, by simp [intOf]; omega⟩
            rw [HAP.out]
            exact HO2
      · have hev' := hev.out
        have hod := HODD.out
        obtain rfl : k = s.size := by omega
        have hn : decide ((s.size : Int) + 1 < (s.size : Int)) = false := by simp; omega
        have HR := Lib.hid (hrd_good (cs := numsOf s) (by rw [numsOf_length]; exact hod) (by rw [numsOf_length]; exact hgd.out))
        rw [numsOf_length] at HR
        clear hev' hod hlt hgd
        go_wp2
        go_ret2
        exact ⟨Or.inr ⟨_, _, HR.out, rfl, hob.out⟩, hbl.out⟩
  · have hmod : (((s.size : Int).tmod 2) == 1) = true := by rw [Int.tmod_eq_emod_of_nonneg (by omega)]; simp; omega
    have hmod' : (((s.size : Int) % 2) == 1) = true := by simp; omega
    have HR := Lib.hid (hrd_odd (cs := numsOf s) (by rw [numsOf_length]; exact hodd))
    clear hodd
    go_enter Tryd.func43, Tryd.ntmps43
    go_wp2
    go_ret2
    exact ⟨Or.inl ⟨HR.out, rfl⟩, Below.refl _ _⟩
end Go.Proofs.YtahjofjblhpndaaDoor
