/- Regions that draw their order: an operation that its guard passes over; Layer 9: a change as a value; the reference's Right; Names of a disk's files: the reference's Disk and the program's -/
import Derived.Test.YtncbgddgkpaoeaaGreatDd2
import Derived.Deep.RegionHeld3
import Derived.StillTail
import Derived.Deep.MidRow
import Derived.StillTactics
set_option linter.unusedSimpArgs false
set_option linter.unusedVariables false
namespace Go.Proofs.YtncbgddgkpaoeaaGreat
set_option linter.unusedVariables false
open Go.RowKit Go.Lib

/-- An operation that its guard passes over. -/
theorem wpStill_skip {P : Program} {ops : Array Oper} {w : World} {Q : Act → Prop} {a : Act} {o : Oper} {rest : List Oper} (hw : Region.wanted o (yielded ops a.tmps) = false) (h : wpStill P ops w Q rest (a.put o.dst undef)) : wpStill P ops w Q (o :: rest) a :=
  wpStill_step fun K hK => by rw [if_neg (by rw [hw]; exact Bool.false_ne_true)]; exact hK _ h

/-- 'append(s, x...)', s of the call's own, x any bytes: at one operation. -/
theorem wp_append_bytes {P : Program} {w : World} {o : Oper} {a : Act} {K : Act → World → Prop} {Q : Exit → Act → World → Prop} (s x : Operand) (t e : TypeId)
    (ho : o.op = .call { callee := .builtin .append, args := #[s, x], argTypes := #[t, t] }) (ht : P.underlying t = some (.slice e))
    (hinfo : (P.info? e).map (fun i => (i.zero, i.size, i.bytes)) = some (some (.int .u8 0), 1, 1))
    (B : Nat) (v : Value) (zs : List Int) (hs : a.eval s = v) (hob : Ob w B e v zs) (p : Option Addr) (m c : Nat) (ys : List Int) (hx : a.eval x = .slice p m c) (hbs : Bs w p m ys) (hpc : p = none → c = 0)
    (hbytes : zs.length + m ≤ 140737488355328) (hB : B ≤ w.heap.size)
    (h : ∀ v' w', Ob w' B e v' (zs ++ ys) → w.grownBy w' v.ownBlock → K (a.put o.dst v') w') : o.wp P a w K Q := by
  obtain ⟨i, hi, hzz⟩ := Option.map_eq_some_iff.1 hinfo
  simp only [Prod.mk.injEq] at hzz
  obtain ⟨hz, hsz, hb⟩ := hzz
  obtain ⟨hy1, hy2, hy3⟩ := hbs
  cases p with
  | none =>
    obtain rfl := hpc rfl
    have hm : m = 0 := by
      rcases hy3 with h0 | ⟨_, _, hh, _⟩
      · exact h0
      · cases hh
    subst hm
    obtain rfl : ys = [] := List.length_eq_zero_iff.1 hy1
    have hrun := run_append_owned_none (P := P) (w := w) B t o.type e i 1 ht hi v _ _ hob.2
    unfold Oper.wp
    simp [execOp, ho, resolve, invoke, builtin, hs, hx, hrun, Result.andThen]
    exact h _ _ (by rw [List.append_nil]; exact hob) ⟨rfl, rfl, rfl, Nat.le_refl _, fun _ _ _ => rfl⟩
  | some ad =>
    refine wp_append_own _ s x t ho B e i (.int .u8 0) 1 1 ht hi hz hsz hb rfl (by decide) v _ _ hs hob.2 ad m c (ys.map (Value.int .u8)) hx (by simpa using hy1) ?_ ?_ (by unfold maxLen; omega) (by omega) hB ?_
    · intro j u hu
      have hj : j < m := by
        rcases Nat.lt_or_ge j m with h | h
        · exact h
        · rw [List.getElem?_eq_none (by simpa [hy1] using h)] at hu; cases hu
      rcases hy3 with h0 | ⟨b, off, hp, hc⟩
      · omega
      · obtain rfl : ad = ⟨b, off, none⟩ := by simpa using hp
        rw [WideShapes.add_plain, hc j hj]
        rw [List.getElem?_map] at hu
        rw [List.getD_eq_getElem?_getD]
        rw [List.getElem?_eq_getElem (by omega)] at hu ⊢
        simpa using hu
    · intro u hu
      obtain ⟨z, _, rfl⟩ := List.mem_map.1 hu
      rfl
    · intro v' w' h1 h2 _
      refine h v' w' ⟨bytes_append hob.1 hy2, ?_⟩ h2
      simpa [hy1] using h1

/-- .. at a step of a region that draws its order (go_region_held3's third argument). -/
theorem step_append_bytes {P : Program} {w : World} {ops : Array Oper} {o : Oper} {a : Act} {K : Act → World → Prop} {Q : Exit → Act → World → Prop} {E : Prop} (hgd : o.guard = none) (s x : Operand) (t e : TypeId)
    (ho : o.op = .call { callee := .builtin .append, args := #[s, x], argTypes := #[t, t] }) (ht : P.underlying t = some (.slice e))
    (hinfo : (P.info? e).map (fun i => (i.zero, i.size, i.bytes)) = some (some (.int .u8 0), 1, 1))
    (B : Nat) (v : Value) (zs : List Int) (hs : a.eval s = v) (hob : Ob w B e v zs) (p : Option Addr) (m c : Nat) (ys : List Int) (hx : a.eval x = .slice p m c) (hbs : Bs w p m ys) (hpc : p = none → c = 0)
    (hbytes : zs.length + m ≤ 140737488355328) (hB : B ≤ w.heap.size)
    (h : ∀ v' w', Ob w' B e v' (zs ++ ys) → w.grownBy w' v.ownBlock → K (a.put o.dst v') w') : if Region.wanted o (yielded ops a.tmps) = true then Oper.wp P o a w K Q else E := by
  have hw : Region.wanted o (yielded ops a.tmps) = true := by simp [Region.wanted, hgd]
  rw [if_pos hw]
  exact wp_append_bytes s x t e ho ht hinfo B v zs hs hob p m c ys hx hbs hpc hbytes hB h

/-- An operation of a plain region, guarded or not, that is carried out. -/
theorem wpList_wanted {P : Program} {ops : Array Oper} {Q : Exit → Act → World → Prop} {a : Act} {w : World} {rest : List Oper} {o : Oper} (hw : Region.wanted o (yielded ops a.tmps) = true)
    (h : ∀ K : Act → World → Prop, (∀ a w, wpList P ops Q rest a w → K a w) → o.wp P a w K Q) : wpList P ops Q (o :: rest) a w := by
  unfold wpList
  rw [if_pos hw]
  exact Or.inl (h _ fun _ _ h => h)

/- A region that draws its order, by hand as far as two loads of whole arrays want it. -/
theorem getElem?_of_drop {α : Type} {l tl : List α} {i : Nat} {x : α} (h : l.drop i = x :: tl) : l.toArray[i]? = some x := by
  rw [List.getElem?_toArray]
  have := congrArg (fun y => y[0]?) h
  simpa using this
theorem take_at {P : Program} {md : Region.Mode} {l tl : List Oper} {Q : Exit → Act → World → Prop} {S : World → Prop} (i : Nat) {oi : Oper} {v : Value} {fuel : Nat} {listed : Array Bool} {a : Act} {w : World} (hl : l.drop i = oi :: tl)
    (hs : Region.noSelect l.toArray = true) (hf : Region.free md l.toArray listed i = true) (hr : (Region.ready md l.toArray listed).contains i = true)
    (hQ : ∀ c a w, Q (.panic c) (a.put oi.dst v) w → Q (.panic c) a w) (hy : YieldsIf P l.toArray S oi v a) (hS : S w)
    (h : wpAnyH P md l.toArray Q S fuel (listed.setIfInBounds i true) (a.put oi.dst v) w) : wpAnyH P md l.toArray Q S (fuel + 1) listed a w :=
  wpAnyH_take (i := i) (oi := oi) (getElem?_of_drop hl) hs hf hr hQ hy hS h
theorem ready_at {P : Program} {md : Region.Mode} {l tl : List Oper} {Q : Exit → Act → World → Prop} {S : World → Prop} (i : Nat) {oi : Oper} {fuel : Nat} {listed : Array Bool} {a : Act} {w : World} (hl : l.drop i = oi :: tl)
    (hr : Region.ready md l.toArray listed = [i])
    (h : ∀ K' : Act → World → Prop, Shut (∀ a w, S w → (S w → wpAnyH P md l.toArray Q S fuel (listed.setIfInBounds i true) a w) → K' a w) → if Region.wanted oi (yielded l.toArray a.tmps) = true then Oper.wp P oi a w K' Q else K' (a.put oi.dst undef) w) :
    wpAnyH P md l.toArray Q S (fuel + 1) listed a w :=
  wpAnyH_ready hr (by simp) (AllReadyH.cons (getElem?_of_drop hl) h AllReadyH.nil)
end Go.Proofs.YtncbgddgkpaoeaaGreat

namespace Go.Proofs.YtncbgddgkpaoeaaGreat
set_option linter.unusedVariables false
open Go.RowKit Go.Lib

def InI64 (n : Int) : Prop := -9223372036854775808 ≤ n ∧ n < 9223372036854775808
/-- a change's value, its bytes where a slice says -/
def chV (c : Ch) (p : Option Addr) (n cap : Nat) : Value := .agg #[.bool c.cut, .int .i64 c.off, .slice p n cap]
/-- that value is fit in this world -/
def chIn (w : World) (c : Ch) (p : Option Addr) (n cap : Nat) : Prop := Bs w p n c.dat ∧ (p = none → cap = 0) ∧ n ≤ cap ∧ cap ≤ maxLen ∧ InI64 c.off
theorem chIn.later {w w' : World} {c : Ch} {p : Option Addr} {n cap : Nat} (h : chIn w c p n cap) (hb : Below w.heap.size w w') : chIn w' c p n cap := ⟨h.1.later hb, h.2⟩
theorem rightP_n {c : Ch} {n : Nat} (h : c.dat.length = n) : rightP c = (decide (0 ≤ c.off) && decide (c.off ≤ 1048576 - (n : Int))) := by
  unfold rightP
  rw [h, Bool.eq_iff_iff, Bool.and_eq_true, decide_eq_true_iff, decide_eq_true_iff, decide_eq_true_iff]

set_option maxRecDepth 100000 in
theorem rwright_any (c : Ch) (p : Option Addr) (n cap : Nat) (w : World) (h : chIn w c p n cap) :
    Calls Tryz.prog 120 #[chV c p n cap] w fun e w' => e = .returned (.bool (rightP c)) ∧ w.alloc (.cells #[.bool c.cut, .int .i64 c.off, .slice p n cap] 137) = w' := by
  obtain ⟨hb, _, hnc, hcm, ho⟩ := h
  have HR := Lib.hid (rightP_n hb.1)
  have hn : n ≤ 9223372036854775807 := by unfold maxLen at hcm; omega
  unfold InI64 at ho
  have hw : IntKind.i64.wrap (1048576 - (n : Int)) = 1048576 - (n : Int) := by simp [IntKind.wrap, IntKind.bits, IntKind.signed]; omega
  unfold chV
  generalize c.off = o at *
  generalize c.cut = b at *
  clear hb hnc hcm
  by_cases h1 : 0 ≤ o
  · by_cases h2 : o ≤ 1048576 - (n : Int)
    · have HF : Hid (rightP c = true) := Lib.hid (by rw [HR.out, decide_eq_true h1, decide_eq_true h2]; rfl)
      go_enter Tryz.func120, Tryz.ntmps120
      go_wp2
      go_ret
      exact ⟨by rw [HF.out]; rfl, rfl⟩
    · have HF : Hid (rightP c = false) := Lib.hid (by rw [HR.out, decide_eq_true h1, decide_eq_false h2]; rfl)
      go_enter Tryz.func120, Tryz.ntmps120
      go_wp2
      go_ret
      exact ⟨by rw [HF.out]; rfl, rfl⟩
  · have HF : Hid (rightP c = false) := Lib.hid (by rw [HR.out, decide_eq_false h1]; rfl)
    go_enter Tryz.func120, Tryz.ntmps120
    go_wp2
    go_ret
    exact ⟨by rw [HF.out]; rfl, rfl⟩
end Go.Proofs.YtncbgddgkpaoeaaGreat

namespace Go.Proofs.YtncbgddgkpaoeaaGreat
set_option linter.unusedVariables false
open Go.RowKit Go.Lib

def nvis (c : Int) : Bool := decide (33 ≤ c ∧ c ≤ 126 ∧ c ≠ 47)
/-- a name for a disk -/
def diskP (cs : List Int) : Bool := decide (1 ≤ cs.length ∧ cs.length ≤ 32) && cs.all nvis
theorem all_step {p : Int → Bool} {l : List Int} {k : Nat} (hk : k < l.length) : (l.take (k + 1)).all p = ((l.take k).all p && p (l.getD k 0)) := by
  have e : l.getD k 0 = l[k] := by rw [List.getD_eq_getElem?_getD, List.getElem?_eq_getElem hk]; rfl
  rw [e, List.take_succ_eq_append_getElem hk, List.all_append, List.all_cons, List.all_nil, Bool.and_true]
theorem all_bad {p : Int → Bool} {l : List Int} {k : Nat} (hk : k < l.length) (h : p (l.getD k 0) = false) : l.all p = false := by
  have e : l.getD k 0 = l[k] := by rw [List.getD_eq_getElem?_getD, List.getElem?_eq_getElem hk]; rfl
  rw [e] at h
  cases ha : l.all p
  · rfl
  · rw [List.all_eq_true.1 ha _ (List.getElem_mem hk)] at h; cases h
theorem lens_dec (n : Nat) : decide (1 ≤ n ∧ n ≤ 32) = (decide (1 ≤ (n : Int)) && decide ((n : Int) ≤ 32)) := by
  rw [Bool.eq_iff_iff, Bool.and_eq_true, decide_eq_true_iff, decide_eq_true_iff, decide_eq_true_iff]; omega

set_option maxRecDepth 100000 in
theorem rdisk_any (s : ByteArray) (w : World) (hs : s.size ≤ 140737488355328) : Calls Tryz.prog 33 #[.string s] w fun e w' => e = .returned (.bool (diskP (numsOf s))) ∧ w = w' := by
  have HL := Lib.hid (numsOf_length s)
  have HD : Hid (diskP (numsOf s) = (decide (1 ≤ s.size ∧ s.size ≤ 32) && (numsOf s).all nvis)) := Lib.hid (by rw [diskP, numsOf_length])
  go_enter Tryz.func33, Tryz.ntmps33
  go_wp2
  go_loopw [3] (fun i wr => ∃ k : Nat, k ≤ s.size ∧ i = .int .i64 (k : Int) ∧ Hid (((numsOf s).take k).all nvis = true) ∧ w = wr) (fun i _ => s.size - (intOf i).toNat)
  case atStart => exact ⟨0, by omega, rfl, Lib.hid (by simp), rfl⟩
  case round =>
    obtain ⟨k, hk, rfl, HO, rfl⟩ := hrel
    by_cases hlt : k < s.size
    · have hx := fun W => run_index_nums W s k hlt
      have hb := numsOf_byte s k
      have HS : Hid (((numsOf s).take (k + 1)).all nvis = nvis ((numsOf s).getD k 0)) := Lib.hid (by rw [all_step (by rw [HL.out]; exact hlt), HO.out, Bool.true_and])
      have HBAD : Hid (nvis ((numsOf s).getD k 0) = false → diskP (numsOf s) = false) := Lib.hid fun h => by rw [HD.out, all_bad (by rw [HL.out]; exact hlt) h, Bool.and_false]
      generalize (numsOf s).getD k 0 = y at *
      by_cases h1 : y ≤ 32
      · have hF := Lib.hid (HBAD.out (by unfold nvis; simp; omega))
        clear HS HBAD HO
        go_wp2
        go_ret
        exact ⟨by rw [hF.out]; rfl, rfl⟩
      by_cases h2 : 127 ≤ y
      · have hF := Lib.hid (HBAD.out (by unfold nvis; simp; omega))
        clear HS HBAD HO
        go_wp2
        go_ret
        exact ⟨by rw [hF.out]; rfl, rfl⟩
      by_cases h3 : y = 47
      · have hF := Lib.hid (HBAD.out (by unfold nvis; simp; omega))
        clear HS HBAD HO
        go_wp2
        go_ret
        exact ⟨by rw [hF.out]; rfl, rfl⟩
      · have HO2 : Hid (((numsOf s).take (k + 1)).all nvis = true) := Lib.hid (by rw [HS.out]; unfold nvis; simp; omega)
        clear HS HBAD HO
        go_wp2
        exact ⟨⟨k + 1, by omega, by go_num, HO2, trivial⟩, by simp [intOf] <;> omega⟩
    · obtain rfl : k = s.size := by omega
      have HF : Hid (diskP (numsOf s) = (decide (1 ≤ (s.size : Int)) && decide ((s.size : Int) ≤ 32))) := Lib.hid (by
        have h := HO.out
        rw [List.take_of_length_le (by rw [HL.out]; omega)] at h
        rw [HD.out, h, Bool.and_true, lens_dec])
      by_cases h1 : 1 ≤ (s.size : Int)
      · have D1 := Lib.hid (decide_eq_true h1)
        by_cases h2 : (s.size : Int) ≤ 32
        · have D2 := Lib.hid (decide_eq_true h2)
          go_wp2
          go_ret
          exact ⟨by rw [HF.out, D1.out, D2.out]; rfl, rfl⟩
        · have D2 := Lib.hid (decide_eq_false h2)
          go_wp2
          go_ret
          exact ⟨by rw [HF.out, D1.out, D2.out]; rfl, rfl⟩
      · have D1 := Lib.hid (decide_eq_false h1)
        go_wp2
        go_ret
        exact ⟨by rw [HF.out, D1.out]; rfl, rfl⟩

set_option maxRecDepth 100000 in
theorem ofdisk_any (c : Int) (w : World) : Calls Tryz.prog 65 #[.int .u8 c] w fun e w' => e = .returned (.bool (nvis c)) ∧ w = w' := by
  have hT : 33 ≤ c ∧ c ≤ 126 ∧ c ≠ 47 → Hid (nvis c = true) := fun h => Lib.hid (by unfold nvis; simp; omega)
  have hF : ¬ (33 ≤ c ∧ c ≤ 126 ∧ c ≠ 47) → Hid (nvis c = false) := fun h => Lib.hid (by unfold nvis; simp; omega)
  by_cases h1 : 33 ≤ c
  · by_cases h2 : c ≤ 126
    · by_cases h3 : c = 47
      · have H := hF (by omega)
        clear hT hF
        subst h3
        go_enter Tryz.func65, Tryz.ntmps65
        go_wp2
        go_ret
        exact ⟨by rw [H.out]; rfl, rfl⟩
      · have H := hT (by omega)
        have hq : (c != 47) = true := by simp; omega
        clear hT hF
        go_enter Tryz.func65, Tryz.ntmps65
        go_wp2
        go_ret
        exact ⟨by rw [H.out]; rfl, rfl⟩
    · have H := hF (by omega)
      clear hT hF
      go_enter Tryz.func65, Tryz.ntmps65
      go_wp2
      go_ret
      exact ⟨by rw [H.out]; rfl, rfl⟩
  · have H := hF (by omega)
    clear hT hF
    go_enter Tryz.func65, Tryz.ntmps65
    go_wp2
    go_ret
    exact ⟨by rw [H.out]; rfl, rfl⟩

set_option maxRecDepth 100000 in
theorem hassize_any (s : ByteArray) (w : World) (hs : s.size ≤ 140737488355328) : Calls Tryz.prog 63 #[.string s] w fun e w' => e = .returned (.bool (decide (1 ≤ s.size ∧ s.size ≤ 32))) ∧ w = w' := by
  have HE : Hid ((s.toList == []) = decide (s.size = 0)) := Lib.hid (by
    rw [text_test s [] [] rfl]
    rw [Bool.eq_iff_iff, decide_eq_true_iff, decide_eq_true_iff, ← numsOf_length s]
    exact ⟨fun h => by rw [h]; rfl, fun h => List.length_eq_zero_iff.1 h⟩)
  by_cases h0 : s.size = 0
  · have hq : (s.toList == []) = true := by rw [HE.out, decide_eq_true h0]
    have H : Hid (decide (1 ≤ s.size ∧ s.size ≤ 32) = false) := Lib.hid (by simp; omega)
    clear HE
    generalize decide (1 ≤ s.size ∧ s.size ≤ 32) = d at *
    go_enter Tryz.func63, Tryz.ntmps63
    go_wp2
    go_ret
    exact ⟨by rw [H.out]; rfl, rfl⟩
  · have hq : (s.toList == []) = false := by rw [HE.out, decide_eq_false h0]
    by_cases h1 : (s.size : Int) ≤ 32
    · have H : Hid (decide (1 ≤ s.size ∧ s.size ≤ 32) = true) := Lib.hid (by simp; omega)
      clear HE
      generalize decide (1 ≤ s.size ∧ s.size ≤ 32) = d at *
      go_enter Tryz.func63, Tryz.ntmps63
      go_wp2
      go_ret
      exact ⟨by rw [H.out]; rfl, rfl⟩
    · have H : Hid (decide (1 ≤ s.size ∧ s.size ≤ 32) = false) := Lib.hid (by simp; omega)
      clear HE
      generalize decide (1 ≤ s.size ∧ s.size ≤ 32) = d at *
      go_enter Tryz.func63, Tryz.ntmps63
      go_wp2
      go_ret
      exact ⟨by rw [H.out]; rfl, rfl⟩

set_option maxRecDepth 100000 in
theorem alldisk_any (s : ByteArray) (w : World) (hs : s.size ≤ 140737488355328) : Calls Tryz.prog 64 #[.string s, .func (.func 65) #[] #[]] w fun e w' => e = .returned (.bool ((numsOf s).all nvis)) ∧ w = w' := by
  have HL := Lib.hid (numsOf_length s)
  have HC := Lib.hid ofdisk_any
  go_enter Tryz.func64, Tryz.ntmps64
  go_wp2
  go_loopw [8] (fun i wr => ∃ k : Nat, k ≤ s.size ∧ i = .int .i64 (k : Int) ∧ Hid (((numsOf s).take k).all nvis = true) ∧ w = wr) (fun i _ => s.size - (intOf i).toNat)
  case atStart => exact ⟨0, by omega, rfl, Lib.hid (by simp), rfl⟩
  case round =>
    obtain ⟨k, hk, rfl, HO, rfl⟩ := hrel
    by_cases hlt : k < s.size
    · have hx := fun W => run_index_nums W s k hlt
      have hb := numsOf_byte s k
      have HS : Hid (((numsOf s).take (k + 1)).all nvis = nvis ((numsOf s).getD k 0)) := Lib.hid (by rw [all_step (by rw [HL.out]; exact hlt), HO.out, Bool.true_and])
      have HBAD : Hid (nvis ((numsOf s).getD k 0) = false → (numsOf s).all nvis = false) := Lib.hid fun h => all_bad (by rw [HL.out]; exact hlt) h
      generalize (numsOf s).getD k 0 = y at *
      have HY := Lib.hid fun W => HC.out y W
      generalize nvis y = t at *
      cases t
      · have hF := Lib.hid (HBAD.out rfl)
        clear HS HBAD HO
        go_wp2_with fail
        refine (HY.out _).mono ?_
        rintro e w1 ⟨rfl, rfl⟩
        go_wp2
        go_ret
        exact ⟨by rw [hF.out]; rfl, rfl⟩
      · clear HBAD HO
        go_wp2_with fail
        refine (HY.out _).mono ?_
        rintro e w1 ⟨rfl, rfl⟩
        go_wp2
        exact ⟨⟨k + 1, by omega, by go_num, HS, trivial⟩, by simp [intOf] <;> omega⟩
    · obtain rfl : k = s.size := by omega
      have HF : Hid ((numsOf s).all nvis = true) := Lib.hid (by
        have h := HO.out
        rwa [List.take_of_length_le (by rw [HL.out]; omega)] at h)
      go_wp2
      go_ret
      exact ⟨by rw [HF.out]; rfl, rfl⟩
set_option maxRecDepth 100000 in
theorem disk_any (s : ByteArray) (w : World) (hs : s.size ≤ 140737488355328) : Calls Tryz.prog 27 #[.string s] w fun e w' => e = .returned (.bool (diskP (numsOf s))) ∧ Below w.heap.size w w' := by
  have HL := Lib.hid (numsOf_length s)
  have HD : Hid (diskP (numsOf s) = (decide (1 ≤ s.size ∧ s.size ≤ 32) && (numsOf s).all nvis)) := Lib.hid (by rw [diskP, numsOf_length])
  have H1 := Lib.hid fun W => hassize_any s W hs
  have H3 := Lib.hid fun W => alldisk_any s W hs
  have hB := Lib.hid (Below.refl w.heap.size w)
  generalize decide (1 ≤ s.size ∧ s.size ≤ 32) = a at *
  generalize (numsOf s).all nvis = c at *
  generalize diskP (numsOf s) = m at *
  cases a
  · go_enter Tryz.func27, Tryz.ntmps27
    go_wp2_with fail
    refine (H1.out _).mono ?_
    rintro e w1 ⟨rfl, rfl⟩
    go_wp2
    go_ret
    exact ⟨by rw [HD.out]; rfl, hB.out⟩
  · cases c
    all_goals
      go_enter Tryz.func27, Tryz.ntmps27
      go_wp2_with fail
      refine (H1.out _).mono ?_
      rintro e w1 ⟨rfl, rfl⟩
      go_wp2_with fail
      refine (H3.out _).mono ?_
      rintro e w3 ⟨rfl, rfl⟩
      go_wp2
      go_ret
      exact ⟨by rw [HD.out]; rfl, hB.out⟩

end Go.Proofs.YtncbgddgkpaoeaaGreat
