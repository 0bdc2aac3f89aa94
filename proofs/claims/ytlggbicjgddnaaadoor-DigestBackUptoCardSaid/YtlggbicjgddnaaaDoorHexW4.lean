/- Walks of package hex: Read. -/
import Derived.Test.YtlggbicjgddnaaaDoorHexW3
namespace Go.Proofs.YtlggbicjgddnaaaDoor
set_option linter.unusedVariables false
open Go.RowKit Go.Lib

theorem numsOf_getD (s : ByteArray) (pos : Nat) (h : pos < s.size) : (numsOf s).getD pos 0 = ((s[pos]'h).toNat : Int) := by
  have h1 : pos < s.data.toList.length := by simpa using h
  simp only [numsOf, List.getD_eq_getElem?_getD, List.getElem?_map, List.getElem?_eq_getElem h1, Option.map_some, Option.getD_some]
  rfl

/-- What a rune is worth, and how long it is, by its first byte. -/
theorem decode_wor (s : ByteArray) (pos : Nat) (h : pos < s.size) : hwor ((Utf8.decode s pos).1 : Nat) = hwor ((numsOf s).getD pos 0) ∧ (hwor ((numsOf s).getD pos 0) ≠ 16 → (Utf8.decode s pos).2 = 1) := by
  rw [numsOf_getD s pos h]
  by_cases ha : (s[pos]'h).toNat < 128
  · rw [decode_ascii s pos h ha]
    exact ⟨rfl, fun _ => rfl⟩
  · have hd := (decode_high s pos h (by omega)).1
    have e1 : ∀ c : Int, 128 ≤ c → hwor c = 16 := fun c hc => by unfold hwor; rw [if_neg (by omega), if_neg (by omega)]
    rw [e1 _ (by omega), e1 _ (by omega)]
    exact ⟨rfl, fun h => absurd rfl h⟩

theorem hrd_odd {cs : List Int} (h : cs.length % 2 ≠ 0) : hrd cs = none := by
  unfold hrd
  rw [if_neg (fun hc => h hc.1)]
theorem hrd_bad {cs : List Int} {k : Nat} (hk : k < cs.length) (h : hwor (cs.getD k 0) = 16) : hrd cs = none := by
  unfold hrd
  rw [if_neg (fun hc => hc.2 k hk h)]
theorem hrd_good {cs : List Int} (h0 : cs.length % 2 = 0) (h : hgood cs cs.length) : hrd cs = some (hread cs (cs.length / 2) cs.length) := by
  unfold hrd
  rw [if_pos ⟨h0, h⟩]
theorem hgood_step {cs : List Int} {k : Nat} (h : hgood cs k) (h1 : hwor (cs.getD k 0) ≠ 16) : hgood cs (k + 1) := by
  intro j hj
  by_cases e : j = k
  · subst e; exact h1
  · exact h j (by omega)

theorem hcell_lt {cs : List Int} {k : Nat} (h : hgood cs k) : 0 ≤ hcell cs k (k / 2) ∧ hcell cs k (k / 2) < 16 := by
  unfold hcell
  rw [if_neg (by omega)]
  split
  · have b := hwor_bd (cs.getD (2 * (k / 2)) 0)
    have g := h (2 * (k / 2)) (by omega)
    omega
  · omega
theorem hnib_is {r n : Int} (h : hwor r = n) (h1 : n ≠ 16) : hnib r = n ∧ hyes r = true := by
  unfold hnib hyes
  rw [if_neg (by omega), h]
  exact ⟨rfl, by simpa using h1⟩

theorem bits_or_nibble {x n : Int} (h0 : 0 ≤ x) (h1 : x < 16) (h2 : 0 ≤ n) (h3 : n < 16) : bits BinOp.or IntKind.u8 (x * 16) n = x * 16 + n := by
  have key : ∀ a : Fin 16, ∀ b : Fin 16, bits BinOp.or IntKind.u8 (((a.val : Nat) : Int) * 16) ((b.val : Nat) : Int) = ((a.val : Nat) : Int) * 16 + ((b.val : Nat) : Int) := by decide +kernel
  obtain ⟨a, rfl⟩ := Int.eq_ofNat_of_zero_le h0
  obtain ⟨b, rfl⟩ := Int.eq_ofNat_of_zero_le h2
  exact key ⟨a, by omega⟩ ⟨b, by omega⟩
theorem iterPos_of {w : World} {k p : Nat} {s : ByteArray} (h : w.heap[k]? = some (.stringIter s p)) : w.iterPos k = p := by
  simp [World.iterPos, h]
theorem setCell_other {w : World} {g j k : Nat} (v : Value) (h : g ≠ k) : (w.setCell ⟨g, j, none⟩ v).heap[k]? = w.heap[k]? := by
  simp [World.setCell, Array.getElem?_modify, h]

set_option maxRecDepth 100000 in
theorem hread_any (s : ByteArray) (w : World) (hs : s.size ≤ 281474976710656) :
    Calls Tryd.prog 22 #[.string s] w fun e w' => ((hrd (numsOf s) = none ∧ e = .returned (.tuple #[.slice none 0 0, .int .i64 3])) ∨ (∃ ys v, hrd (numsOf s) = some ys ∧ e = .returned (.tuple #[v, .int .i64 0]) ∧ Ob w' w.heap.size 5 v ys)) ∧ Below w.heap.size w w' := by
  by_cases hodd : s.size % 2 = 0
  · have hmod : (((s.size : Int).tmod 2) != 0) = false := by rw [Int.tmod_eq_emod_of_nonneg (by omega)]; simp; omega
    have hmod' : (((s.size : Int) % 2) != 0) = false := by simp; omega
    obtain ⟨m, hm⟩ : ∃ m, s.size / 2 = m := ⟨_, rfl⟩
    have hm1 : m ≤ 281474976710656 := by omega
    have hm2 : Hid ((s.size : Int) / 2 = (m : Int)) := Lib.hid (by omega)
    have hm3 : Hid (s.size = 2 * m) := Lib.hid (by omega)
    clear hm hodd
    go_enter Tryd.func22, Tryd.ntmps22
    go_wp2_with (refine wpList_make_bytes _ rfl _ _ 22 5 rfl Tryd.underlying22 info8 .i64 .i64 _ _ m m rfl rfl hm2.out hm2.out (Nat.le_refl _) hm1 ?_; intro w1 hob1 hg1; have hb1 := below_none hg1; have HB := Lib.hid hb1; have HOB := Lib.hid hob1; clear hb1 hob1 hg1)
    go_loopw [5] (fun _ wr => ∃ k : Nat, k ≤ s.size ∧ Hid (wr.heap[w1.heap.size]? = some (.stringIter s k)) ∧ Hid (Ob wr w.heap.size 5 (.slice (some ⟨w.heap.size, 0, none⟩) m m) (hread (numsOf s) m k)) ∧ Hid (hgood (numsOf s) k) ∧ Hid (Below w.heap.size w wr)) (fun _ wr => s.size - wr.iterPos w1.heap.size)
    case atStart =>
      refine ⟨0, Nat.zero_le _, Lib.hid (w1.iter_heap s 0), Lib.hid ?_, Lib.hid (fun j hj => by omega), Lib.hid (HB.out.alloc HB.out.size _)⟩
      rw [hread_zero]
      exact HOB.out.alloc _
    case round =>
      have hs1 : w.heap.size < w1.heap.size := HOB.out.block_own.2
      obtain ⟨k, hk, hit, hob, hgd, hbl⟩ := hrel
      by_cases hlt : k < s.size
      · have hnx := fun ty => run_next_any_at (P := Tryd.prog) wr w1.heap.size s k ty hit.out hlt
        have hw := decode_wor s k hlt
        have HPOS := Lib.hid (iterPos_of hit.out)
        have hit2 := iterAt_heap wr w1.heap.size s k (k + (Utf8.decode s k).2) hit.out
        have hbl2 : Below w.heap.size w (wr.iterAt w1.heap.size s (k + (Utf8.decode s k).2)) := below_iterAt hbl.out (Nat.le_of_lt hs1) _ _
        have hob2 := hob.out.moved (iterAt_other wr w1.heap.size w.heap.size s (k + (Utf8.decode s k).2) (by omega))
        have hitlt : w1.heap.size < (wr.iterAt w1.heap.size s (k + (Utf8.decode s k).2)).heap.size := (Array.getElem?_eq_some_iff.1 hit2).1
        generalize (Utf8.decode s k).1 = r at *
        generalize hwd : (Utf8.decode s k).2 = wd at *
        generalize hwi : wr.iterAt w1.heap.size s (k + wd) = wi at *
        have HIT := Lib.hid hit2
        have HBL := Lib.hid hbl2
        have HOB2 := Lib.hid hob2
        clear hit2 hbl2 hob2 hwi hit hob hbl
        obtain ⟨hw1, hw2⟩ := hw
        by_cases hbad : hwor ((numsOf s).getD k 0) = 16
        · have hyn := hnib_no (hw1.trans hbad)
          have HR := Lib.hid (hrd_bad (by rw [numsOf_length]; exact hlt) hbad)
          clear hw1 hw2 hbad hwd
          go_wp2_with fail
          refine (hnibble_any _ _).mono ?_
          rintro e w2 ⟨rfl, hb2⟩
          rw [hyn.1, hyn.2]
          have HB2 := Lib.hid (below_step HBL.out hb2)
          clear hb2 hyn
          go_wp2
          go_ret2
          exact ⟨Or.inl ⟨HR.out, rfl⟩, HB2.out⟩
        · have hwd1 := hw2 hbad
          subst hwd1
          have HG := Lib.hid (hgood_step hgd.out hbad)
          have hyn := hnib_is hw1 hbad
          have hx := hcell_lt hgd.out
          have hset := hread_set (numsOf s) m k (by rw [← hm3.out]; exact hlt)
          have hnb := hwor_bd ((numsOf s).getD k 0)
          have hj : k / 2 < m := by have := hm3.out; omega
          have hcd := hread_getD (numsOf s) m k (k / 2) hj
          generalize hcell (numsOf s) k (k / 2) = x at *
          generalize hwor ((numsOf s).getD k 0) = n at *
          have hn16 : n < 16 := by omega
          have HS := Lib.hid hset
          clear hw1 hw2 hbad hset hgd
          go_wp2_with fail
          refine (hnibble_any _ _).mono ?_
          rintro e w2 ⟨rfl, hb2⟩
          rw [hyn.1, hyn.2]
          have HB2 := Lib.hid (below_step HBL.out hb2)
          have hit2 : w2.heap[w1.heap.size]? = some (.stringIter s (k + 1)) := (hb2.block _ hitlt).trans HIT.out
          have HIT2 := Lib.hid hit2
          have hob3 := HOB2.out.later hb2
          obtain ⟨hcell, hfrz⟩ := hob3.cell (k / 2) hj
          rw [hcd] at hcell
          have HOB3 := Lib.hid hob3
          have hjb : (k : Int) / 2 < (m : Int) := by omega
          clear hb2 hyn hit2 hob3 hcd
          go_wp2
          rw [bits_or_nibble hx.1 hx.2 hnb.1 hn16]
          have hit3 := (setCell_other (w := w2) (g := w.heap.size) (j := k / 2) (.int .u8 (x * 16 + n)) (Nat.ne_of_lt hs1)).trans HIT2.out
          refine ⟨⟨k + 1, hlt, Lib.hid hit3, Lib.hid ?_, HG, Lib.hid (HB2.out.setCell (p := ⟨w.heap.size, k / 2, none⟩) (Nat.le_refl _) _)⟩, ?_⟩
          · rw [← HS.out]
            exact HOB3.out.set (k / 2) hj _ (by omega) (by omega)
          · rw [iterPos_of hit3, HPOS.out]
            omega
      · have hnx := fun ty => run_next_end_at (P := Tryd.prog) wr w1.heap.size s k ty hit.out hlt
        have hks : k = s.size := by omega
        subst hks
        have HR := Lib.hid (hrd_good (cs := numsOf s) (by rw [numsOf_length, hm3.out]; omega) (by rw [numsOf_length]; exact hgd.out))
        have hl : (numsOf s).length / 2 = m := by rw [numsOf_length, hm3.out]; omega
        have hob' := hob.out
        rw [hl, numsOf_length] at HR
        have HOB2 := Lib.hid hob'
        clear hob' hl hit hob hgd
        go_wp2
        go_ret2
        exact ⟨Or.inr ⟨_, _, HR.out, rfl, HOB2.out⟩, hbl.out⟩
  · have hmod : (((s.size : Int).tmod 2) != 0) = true := by rw [Int.tmod_eq_emod_of_nonneg (by omega)]; simp; omega
    have hmod' : (((s.size : Int) % 2) != 0) = true := by simp; omega
    have HR := Lib.hid (hrd_odd (cs := numsOf s) (by rw [numsOf_length]; exact hodd))
    clear hodd
    go_enter Tryd.func22, Tryd.ntmps22
    go_wp2
    go_ret2
    exact ⟨Or.inl ⟨HR.out, rfl⟩, Below.refl _ _⟩
end Go.Proofs.YtlggbicjgddnaaaDoor
