/- Layer 14, the program: data that are read part by part -/
import Derived.Test.YtjdigncieoaglaaSt11
import Derived.Test.YtjdigncieoaglaaSt19
import Derived.Laws.CopyOwn
set_option linter.unusedSimpArgs false
set_option linter.unusedVariables false
namespace Go.Proofs.Ytjdigncieoaglaa
set_option linter.unusedVariables false
open Go.RowKit Go.Lib

theorem Bs.from_all {P : Program} {p : Option Addr} {len : Nat} (t e : TypeId) (ht : P.underlying t = some (.slice e)) (hz : ∀ w, (Go.sizeOf e).run P w = .ok 1 w) (cap l : Nat) (hlc : len ≤ cap) (hl : l ≤ len) :
    ∃ p', (∀ W', (Instr.slice t (.slice p len cap) (some (.int .i64 (l : Int))) none none).run P W' = .ok (.slice p' (len - l) (cap - l)) W') ∧ (∀ W zs, Bs W p len zs → Bs W p' (len - l) (zs.drop l)) ∧ ((p = none → cap = 0) → p' = none → cap - l = 0) := by
  have ht' : P.underlying t = some (.slice (P.elem t)) := by simp [Program.elem, ht]
  have he : P.elem t = e := by simp [Program.elem, ht]
  refine ⟨_, fun W' => by rw [run_slice_l W' t _ _ _ ht' .i64 _ (by omega) (by omega), he, hz]; rfl, ?_, ?_⟩
  · intro W zs hb
    have hn := hb.len
    simp only [Int.toNat_natCast, Nat.mul_one]
    by_cases e0 : len - l = 0
    · rw [e0, List.drop_of_length_le (by omega)]
      exact Bs.empty _ _
    · rcases hb.2.2 with h0 | ⟨b, o, rfl, hc⟩
      · omega
      · rw [if_neg (by omega)]
        have := hb.window l (len - l) (by omega)
        rw [List.take_of_length_le (by simp; omega)] at this
        by_cases h0 : l = 0
        · subst h0; simpa [Addr.add] using this
        · simpa [Addr.add, h0] using this
  · intro hp hnone
    split at hnone
    · simp at *; omega
    · cases p with
      | none => have := hp rfl; omega
      | some a => simp at hnone
theorem Bs.to_all {P : Program} {p : Option Addr} {len : Nat} (t e : TypeId) (ht : P.underlying t = some (.slice e)) (hz : ∀ w, (Go.sizeOf e).run P w = .ok 1 w) (cap h : Nat) (hlc : len ≤ cap) (hh : h ≤ len) :
    ∃ p', (∀ W', (Instr.slice t (.slice p len cap) none (some (.int .i64 (h : Int))) none).run P W' = .ok (.slice p' h cap) W') ∧ (∀ W zs, Bs W p len zs → Bs W p' h (zs.take h)) ∧ ((p = none → cap = 0) → p' = none → cap = 0) := by
  have ht' : P.underlying t = some (.slice (P.elem t)) := by simp [Program.elem, ht]
  have he : P.elem t = e := by simp [Program.elem, ht]
  refine ⟨_, fun W' => by rw [run_slice_h W' t _ _ _ ht' .i64 _ (by omega) (by omega), he, hz]; rfl, ?_, ?_⟩
  · intro W zs hb
    have hn := hb.len
    simp only [Nat.zero_mul]
    by_cases e0 : h = 0
    · rw [e0, List.take_zero]
      exact Bs.empty _ _
    · rcases hb.2.2 with h0 | ⟨b, o, rfl, hc⟩
      · omega
      · rw [if_neg (by omega)]
        simpa [Addr.add] using hb.take h (by omega)
  · intro hp hnone
    split at hnone
    · omega
    · cases p with
      | none => exact hp rfl
      | some a => simp at hnone

/-- block b holds what is left, and whether a part was missing -/
def Pm (W : World) (b : Nat) (q : Option Addr) (n c : Nat) (x : Bool) : Prop := W.heap[b]? = some (.cells #[.slice q n c, .bool x] 117 (0, 0))
theorem Pm.at {W : World} {b : Nat} {q : Option Addr} {n c : Nat} {x : Bool} (h : Pm W b q n c x) : W.cell? ⟨b, 0, none⟩ = some (.slice q n c) ∧ W.cell? ⟨b, 1, none⟩ = some (.bool x) ∧ W.frozen? ⟨b, 0, none⟩ = false ∧ W.frozen? ⟨b, 1, none⟩ = false :=
  ⟨by simp [World.cell?, show W.heap[b]? = _ from h], by simp [World.cell?, show W.heap[b]? = _ from h], by simp [World.frozen?, show W.heap[b]? = _ from h], by simp [World.frozen?, show W.heap[b]? = _ from h]⟩
theorem Pm.rest {W : World} {b : Nat} {q : Option Addr} {n c : Nat} {x : Bool} (h : Pm W b q n c x) (q' : Option Addr) (n' c' : Nat) : Pm (W.setCell ⟨b, 0, none⟩ (.slice q' n' c')) b q' n' c' x := by
  unfold Pm at h ⊢
  rw [heap_setCell_same W b 0 _ _ _ h]
  rfl
theorem Pm.wrong {W : World} {b : Nat} {q : Option Addr} {n c : Nat} {x : Bool} (h : Pm W b q n c x) : Pm (W.setCell ⟨b, 1, none⟩ (.bool true)) b q n c true := by
  unfold Pm at h ⊢
  rw [heap_setCell_same W b 1 _ _ _ h]
  rfl
theorem below_at {b : Nat} {W V : World} (h : Below b W V) (j : Nat) (v : Value) : Below b W (V.setCell ⟨b, j, none⟩ v) := h.setCell (p := ⟨b, j, none⟩) (Nat.le_refl b) v
/-- block b alone has turned -/
structure But (b : Nat) (w w' : World) : Prop where
  below : Below b w w'
  same : ∀ k, k ≠ b → k < w.heap.size → w'.heap[k]? = w.heap[k]?
theorem But.refl (b : Nat) (w : World) : But b w w := ⟨Below.refl _ _, fun _ _ _ => rfl⟩
theorem But.trans {b : Nat} {u v w : World} (h : But b u v) (k : But b v w) : But b u w := ⟨h.below.trans k.below, fun g h1 h2 => (k.same g h1 (Nat.lt_of_lt_of_le h2 h.below.size)).trans (h.same g h1 h2)⟩
theorem But.at {b : Nat} {W V : World} (h : But b W V) (j : Nat) (v : Value) : But b W (V.setCell ⟨b, j, none⟩ v) := ⟨below_at h.below j v, fun g h1 h2 => (heap_setCell_other _ ⟨b, j, none⟩ g v h1).trans (h.same g h1 h2)⟩
/-- what is left: zs, wherever S holds -/
structure Pa (S : World → Prop) (B : Nat) (W : World) (b : Nat) (zs : List Int) (x : Bool) (q : Option Addr) (n c : Nat) : Prop where
  row : Pm W b q n c x
  bs : ∀ V, S V → Bs V q n zs
  pc : q = none → c = 0
  nc : n ≤ c
  cm : c ≤ maxLen
  hn : n ≤ 2097216
  lo : B ≤ b
  keep : ∀ V, Below B W V → S V
theorem Pa.s {S : World → Prop} {B : Nat} {W : World} {b : Nat} {zs : List Int} {x : Bool} {q : Option Addr} {n c : Nat} (h : Pa S B W b zs x q n c) : S W := h.keep _ (Below.refl _ _)
theorem Pa.len {S : World → Prop} {B : Nat} {W : World} {b : Nat} {zs : List Int} {x : Bool} {q : Option Addr} {n c : Nat} (h : Pa S B W b zs x q n c) : zs.length = n := (h.bs _ h.s).len
theorem Pa.byt {S : World → Prop} {B : Nat} {W : World} {b : Nat} {zs : List Int} {x : Bool} {q : Option Addr} {n c : Nat} (h : Pa S B W b zs x q n c) : Byt zs := (h.bs _ h.s).byte
theorem Pa.lt {S : World → Prop} {B : Nat} {W : World} {b : Nat} {zs : List Int} {x : Bool} {q : Option Addr} {n c : Nat} (h : Pa S B W b zs x q n c) : b < W.heap.size := (Array.getElem?_eq_some_iff.1 h.row).1
/-- a slice of what S keeps -/
structure Sl (S : World → Prop) (zs : List Int) (q : Option Addr) (n c : Nat) : Prop where
  bs : ∀ V, S V → Bs V q n zs
  pc : q = none → c = 0
  nc : n ≤ c
  cm : c ≤ maxLen
def gotN (zs : List Int) (m : Nat) : List Int := if m ≤ zs.length then zs.take m else []
def leftN (zs : List Int) (m : Nat) : List Int := if m ≤ zs.length then zs.drop m else zs
/-- the state of the parts behind a step -/
def Po (S : World → Prop) (B : Nat) (W : World) (b : Nat) (zs : List Int) (x : Bool) (W' : World) : Prop := (∃ q n c, Pa S B W' b zs x q n c) ∧ But b W W'

def TkQ (S : World → Prop) (B : Nat) (W : World) (b : Nat) (zs : List Int) (x : Bool) (m : Nat) (e : Ending) (W' : World) : Prop :=
  ∃ q n c, e = .returned (.slice q n c) ∧ Sl S (gotN zs m) q n c ∧ Po S B W b (leftN zs m) (x || decide (zs.length < m)) W'

set_option maxRecDepth 100000 in
theorem ptake_any (S : World → Prop) (B b : Nat) (zs : List Int) (x : Bool) (q : Option Addr) (n c m : Nat) (W : World) (h : Pa S B W b zs x q n c) (hm : m ≤ 2097216) :
    Calls Try.prog 72 #[.pointer (some ⟨b, 0, none⟩), .int .i64 (m : Int)] W fun e W' => TkQ S B W b zs x m e W' := by
  have HP := Lib.hid h
  have HL := Lib.hid h.len
  obtain ⟨c0, c1, f0, f1⟩ := h.row.at
  have hn := h.hn
  by_cases hmn : m ≤ n
  · have hnc := h.nc
    obtain ⟨pt, hst, hbt, hpt⟩ := Bs.to_all (P := Try.prog) (p := q) (len := n) 23 5 Try.underlying23 (fun _ => by kernel_rfl) c m hnc hmn
    obtain ⟨pf, hsf, hbf, hpf⟩ := Bs.from_all (P := Try.prog) (p := q) (len := n) 23 5 Try.underlying23 (fun _ => by kernel_rfl) c m hnc hmn
    have HT := Lib.hid hbt
    have HF := Lib.hid hbf
    have HPT := Lib.hid hpt
    have HPF := Lib.hid hpf
    have hne : ¬ ((m : Int) > (n : Int)) := by omega
    clear h hnc hbt hpt hbf hpf
    go_enter Try.func72, Try.ntmps72
    go_wp2
    go_ret
    have hb : But b W (W.setCell ⟨b, 0, none⟩ (.slice pf (n - m) (c - m))) := (But.refl _ _).at _ _
    refine ⟨pt, m, c, rfl, ⟨fun V hV => ?_, HPT.out HP.out.pc, by have := HP.out.nc; omega, HP.out.cm⟩, ⟨pf, n - m, c - m, ?_, fun V hV => ?_, HPF.out HP.out.pc, by have := HP.out.nc; omega, by have := HP.out.cm; omega, by omega, HP.out.lo, fun V hV => HP.out.keep V ((hb.below.mono HP.out.lo).trans hV)⟩, hb⟩
    · rw [gotN, if_pos (by rw [HL.out]; exact hmn)]
      exact HT.out V _ (HP.out.bs V hV)
    · rw [show (x || decide (zs.length < m)) = x by rw [decide_eq_false (by rw [HL.out]; omega), Bool.or_false]]
      exact HP.out.row.rest _ _ _
    · rw [leftN, if_pos (by rw [HL.out]; exact hmn)]
      exact HF.out V _ (HP.out.bs V hV)
  · have hgt : (m : Int) > (n : Int) := by omega
    clear h
    go_enter Try.func72, Try.ntmps72
    go_wp2
    go_ret
    have hb : But b W (W.setCell ⟨b, 1, none⟩ (.bool true)) := (But.refl _ _).at _ _
    refine ⟨none, 0, 0, rfl, ⟨fun V hV => ?_, fun _ => rfl, Nat.le_refl _, Nat.zero_le _⟩, ⟨q, n, c, ?_, fun V hV => ?_, HP.out.pc, HP.out.nc, HP.out.cm, HP.out.hn, HP.out.lo, fun V hV => HP.out.keep V ((hb.below.mono HP.out.lo).trans hV)⟩, hb⟩
    · rw [gotN, if_neg (by rw [HL.out]; omega)]
      exact Bs.empty _ _
    · rw [show (x || decide (zs.length < m)) = true by rw [decide_eq_true (by rw [HL.out]; omega), Bool.or_true]]
      exact HP.out.row.wrong
    · rw [leftN, if_neg (by rw [HL.out]; omega)]
      exact HP.out.bs V hV

theorem gotN_length {zs : List Int} {m n : Nat} {V : World} {S : World → Prop} {q : Option Addr} {c : Nat} (h : Sl S (gotN zs m) q n c) (hV : S V) : (gotN zs m).length = n := (h.bs V hV).len
/-- a number of m bytes -/
def numN (zs : List Int) (m : Nat) : Int := wrap64 (takeN (gotN zs m) 0 m)
def NuQ (S : World → Prop) (B : Nat) (W : World) (b : Nat) (zs : List Int) (x : Bool) (m : Nat) (e : Ending) (W' : World) : Prop :=
  e = .returned (.int .i64 (numN zs m)) ∧ Po S B W b (leftN zs m) (x || decide (zs.length < m)) W'
set_option maxRecDepth 100000 in
theorem pnumber_any (S : World → Prop) (B b : Nat) (zs : List Int) (x : Bool) (q : Option Addr) (n c m : Nat) (W : World) (h : Pa S B W b zs x q n c) (hm : m ≤ 2097216) :
    Calls Try.prog 73 #[.pointer (some ⟨b, 0, none⟩), .int .i64 (m : Int)] W fun e W' => NuQ S B W b zs x m e W' := by
  have HT := Lib.hid (ptake_any S B b zs x q n c m W h hm)
  have HK : Hid (∀ V, Below b W V → S V) := Lib.hid fun V hV => h.keep V (hV.mono h.lo)
  unfold NuQ numN
  clear h
  go_enter Try.func73, Try.ntmps73
  go_wp2_with (first
    | (go_at_call 72; refine HT.out.mono ?_; rintro e W1 ⟨q1, n1, c1, rfl, hs1, hp1⟩; have HS1 := Lib.hid hs1; have HP1 := Lib.hid hp1; clear hs1 hp1)
    | (go_at_call 80; refine (take_any q1 n1 c1 (gotN zs m) 0 (m : Int) W1 (HS1.out.bs _ (HK.out _ HP1.out.2.below)) (Nat.le_trans HS1.out.nc HS1.out.cm) (by omega)).mono ?_; rintro e W2 ⟨rfl, rfl⟩))
  go_ret
  exact ⟨rfl, HP1.out⟩

/-- a name -/
def TxQ (S : World → Prop) (B : Nat) (W : World) (b : Nat) (zs : List Int) (x : Bool) (e : Ending) (W' : World) : Prop :=
  e = .returned (.string (strOfNums (textS zs 0))) ∧ Po S B W b (zs.drop (textE zs 0).toNat) (x || !textB zs 0) W'
theorem textE_bd {zs : List Int} (h : Byt zs) : 0 ≤ textE zs 0 ∧ textE zs 0 ≤ zs.length := by
  unfold textE
  split
  · rename_i ht
    simp only [textB, takeB, isSizeB, holdsB, Bool.and_eq_true, decide_eq_true_eq] at ht
    have := h (0 : Int).toNat
    omega
  · omega
set_option maxRecDepth 100000 in
theorem ptext_any (S : World → Prop) (B b : Nat) (zs : List Int) (x : Bool) (q : Option Addr) (n c : Nat) (W : World) (h : Pa S B W b zs x q n c) :
    Calls Try.prog 70 #[.pointer (some ⟨b, 0, none⟩)] W fun e W' => TxQ S B W b zs x e W' := by
  have HP := Lib.hid h
  have HT := Lib.hid (text_any q n c zs 0 W (h.bs _ h.s) h.nc h.cm (by omega))
  obtain ⟨c0, c1, f0, f1⟩ := h.row.at
  have hE := textE_bd h.byt
  rw [h.len] at hE
  unfold TxQ
  generalize strOfNums (textS zs 0) = s at *
  obtain ⟨k, hk⟩ := Int.eq_ofNat_of_zero_le hE.1
  rw [hk] at HT hE ⊢
  have hkn : k ≤ n := by omega
  obtain ⟨pf, hsf, hbf, hpf⟩ := Bs.from_all (P := Try.prog) (p := q) (len := n) 23 5 Try.underlying23 (fun _ => by kernel_rfl) c k h.nc hkn
  have HF := Lib.hid hbf
  have HPF := Lib.hid hpf
  clear h hbf hpf hE hk
  generalize textB zs 0 = tb at *
  cases tb
  · obtain ⟨w1, hw1⟩ : ∃ V, W.setCell ⟨b, 1, none⟩ (.bool true) = V := ⟨_, rfl⟩
    have HR1 : Hid (Pm w1 b q n c true) := Lib.hid (by rw [← hw1]; exact HP.out.row.wrong)
    have HB1 : Hid (But b W w1) := Lib.hid (by rw [← hw1]; exact (But.refl _ _).at _ _)
    obtain ⟨d0, d1, g0, g1⟩ := HR1.out.at
    go_enter Try.func70, Try.ntmps70
    go_wp2_with (go_at_call 79; refine HT.out.mono ?_; rintro e W2 ⟨rfl, rfl⟩)
    go_ret
    have hb : But b W (w1.setCell ⟨b, 0, none⟩ (.slice pf (n - k) (c - k))) := HB1.out.at _ _
    refine ⟨rfl, ⟨pf, n - k, c - k, ?_, fun V hV => ?_, HPF.out HP.out.pc, by have := HP.out.nc; omega, by have := HP.out.cm; omega, by have := HP.out.hn; omega, HP.out.lo, fun V hV => HP.out.keep V ((hb.below.mono HP.out.lo).trans hV)⟩, hb⟩
    · rw [show (x || !false) = true by simp]
      exact HR1.out.rest _ _ _
    · rw [Int.toNat_natCast]
      exact HF.out V _ (HP.out.bs V hV)
  · go_enter Try.func70, Try.ntmps70
    go_wp2_with (go_at_call 79; refine HT.out.mono ?_; rintro e W2 ⟨rfl, rfl⟩)
    go_ret
    have hb : But b W (W.setCell ⟨b, 0, none⟩ (.slice pf (n - k) (c - k))) := (But.refl _ _).at _ _
    refine ⟨rfl, ⟨pf, n - k, c - k, ?_, fun V hV => ?_, HPF.out HP.out.pc, by have := HP.out.nc; omega, by have := HP.out.cm; omega, by have := HP.out.hn; omega, HP.out.lo, fun V hV => HP.out.keep V ((hb.below.mono HP.out.lo).trans hV)⟩, hb⟩
    · rw [show (x || !true) = x by simp]
      exact HP.out.row.rest _ _ _
    · rw [Int.toNat_natCast]
      exact HF.out V _ (HP.out.bs V hV)

def MaQ (S : World → Prop) (B : Nat) (W : World) (b : Nat) (zs : List Int) (x : Bool) (e : Ending) (W' : World) : Prop :=
  e = .returned (.tuple #[]) ∧ Po S B W b (leftN zs 8) ((x || decide (zs.length < 8)) || decide (gotN zs 8 ≠ magN)) W'
set_option maxRecDepth 100000 in
theorem pmark_any (S : World → Prop) (B b : Nat) (zs : List Int) (x : Bool) (q : Option Addr) (n c : Nat) (W : World) (h : Pa S B W b zs x q n c) :
    Calls Try.prog 74 #[.pointer (some ⟨b, 0, none⟩)] W fun e W' => MaQ S B W b zs x e W' := by
  have HT : Hid (Calls Try.prog 72 #[.pointer (some ⟨b, 0, none⟩), .int .i64 8] W fun e W' => TkQ S B W b zs x 8 e W') := Lib.hid (ptake_any S B b zs x q n c 8 W h (by omega))
  have HK : Hid (∀ V, Below b W V → S V) := Lib.hid fun V hV => h.keep V (hV.mono h.lo)
  clear h
  unfold MaQ
  go_enter Try.func74, Try.ntmps74
  go_wp2_with fail
  refine HT.out.mono ?_
  rintro e W1 ⟨q1, n1, c1, rfl, hs1, ⟨q2, n2, c2, hp1⟩, hb1⟩
  have HB1 := Lib.hid hb1
  have HP1 := Lib.hid hp1
  have hbs := hs1.bs _ (HK.out _ hb1.below)
  have hcv := hbs.run_string (P := Try.prog) 23 5 9 Try.underlying23 Try.underlying5 Try.underlying9 c1
  have htt := text_test (strOfNums (gotN zs 8)) [115, 116, 105, 108, 108, 97, 103, 101] magN rfl
  rw [numsOf_strOfNums hbs.byte] at htt
  generalize strOfNums (gotN zs 8) = s at *
  obtain ⟨c0, c1', f0, f1⟩ := hp1.row.at
  clear hbs hs1 hp1 hb1
  by_cases hB : gotN zs 8 = magN
  · rw [decide_eq_true hB] at htt
    have HE := Lib.hid hB
    clear hB
    go_wp2
    go_end0
    refine ⟨rfl, ⟨q2, n2, c2, ?_⟩, HB1.out⟩
    rw [show decide (gotN zs 8 ≠ magN) = false from decide_eq_false (by rw [HE.out]; simp), Bool.or_false]
    exact HP1.out
  · rw [decide_eq_false hB] at htt
    have HE := Lib.hid hB
    clear hB
    go_wp2
    go_end0
    have hb : But b W1 (W1.setCell ⟨b, 1, none⟩ (.bool true)) := (But.refl _ _).at _ _
    refine ⟨rfl, ⟨q2, n2, c2, ?_, HP1.out.bs, HP1.out.pc, HP1.out.nc, HP1.out.cm, HP1.out.hn, HP1.out.lo, fun V hV => HP1.out.keep V ((hb.below.mono HP1.out.lo).trans hV)⟩, HB1.out.trans hb⟩
    rw [show decide (gotN zs 8 ≠ magN) = true from decide_eq_true HE.out, Bool.or_true]
    exact HP1.out.row.wrong
end Go.Proofs.Ytjdigncieoaglaa
