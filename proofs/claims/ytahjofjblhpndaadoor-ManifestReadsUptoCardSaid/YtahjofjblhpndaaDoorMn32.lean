/- Layer 17, the program: the lines' iterator, inside the widest fence -/
import Derived.Test.YtahjofjblhpndaaDoorMn31
import Derived.RangeFuncNested
import Derived.RangeFuncBound
import Derived.RangeFuncCalls
import Derived.RangeFuncLeaves
import Derived.Shelf.Abstract
import Derived.WalkKit
import Derived.OwnWalkIn
import Derived.TacticsInMore
import Derived.LoopNIn
import Derived.LoopIn
set_option linter.unusedSimpArgs false
set_option linter.unusedVariables false
namespace Go.Proofs.YtahjofjblhpndaaDoor
set_option linter.unusedVariables false
open Go.RowKit Go.Lib Go.Shelf
attribute [local go_sem] Oper.semAt_some

/-- a line as it is yielded -/
abbrev Sx := { x : ByteArray × Bool // x.1.size ≤ 1048576 }
def encSx (x : Sx) : Array Value := #[.string x.1.1, .bool x.1.2]
def plS (l : List Sx) : List (ByteArray × Bool) := l.map (·.1)
theorem plS_snoc (l : List Sx) (x : Sx) : plS (l ++ [x]) = plS l ++ [x.1] := by unfold plS; rw [List.map_append]; rfl
theorem grown_below' {w W : World} (h : Below w.heap.size w W) : w.grownBy W none := ⟨h.os, h.tape, h.output, h.size, fun k hk _ => h.block k hk⟩
theorem lns_next {t : ByteArray} (ht : numsOf t ≠ []) : lnsR (numsOf t) = (strOfNums (cutA 10 (numsOf t)), (cutC 10 (numsOf t)).isSome) :: lnsR (cutB 10 (numsOf t)) ∧ (cutB 10 (numsOf t)).length < (numsOf t).length := by
  cases hc : cutC 10 (numsOf t) with
  | none =>
    have h2 : cutL (numsOf t) = none := by rw [← cutC_10]; exact hc
    have h3 : 0 < (numsOf t).length := List.length_pos_iff.2 ht
    rw [lnsR_last ht h2]
    unfold cutA cutB
    rw [hc]
    exact ⟨rfl, h3⟩
  | some p =>
    obtain ⟨a, b⟩ := p
    have h2 : cutL (numsOf t) = some (a, b) := by rw [← cutC_10]; exact hc
    rw [lnsR_step h2]
    unfold cutA cutB
    rw [hc]
    refine ⟨rfl, ?_⟩
    have h := congrArg List.length (cutC_some hc).1
    rw [List.length_append, List.length_cons] at h
    dsimp only
    omega
def strLen (v : Value) : Nat := match v with | .string t => t.size | _ => 0
theorem strLen_string (t : ByteArray) : strLen (.string t) = t.size := rfl
set_option maxRecDepth 100000 in
set_option maxHeartbeats 2000000 in
theorem mlns1_in (n : Nat) (hn : 1 ≤ n) (l Bn : Nat) (s : ByteArray) (hs : s.size ≤ 1048576) (Kp : World → World → Prop) (J Jx : List Sx → World → Prop) (W : World) (hJ : AbidesFrom W.heap.size J)
    (hY : ∀ pre (x : Sx) W, J pre W → pre.length < (lnsR (numsOf s)).length → YieldAt Fence.wide (n - 1) Tryd.prog l (encSx x) W fun e W' =>
      (e = .returned (.bool true) ∧ J (pre ++ [x]) W' ∧ Kp W W') ∨ (e = .returned (.bool false) ∧ Jx (pre ++ [x]) W'))
    (hBn : W.cell? ⟨Bn, 0, none⟩ = some (.string s)) (h0 : J [] W) :
    CallsIn Fence.wide n Tryd.prog 29 #[.func (.yield l) #[] #[], .pointer (some ⟨Bn, 0, none⟩)] W fun e W' => (∃ v, e = .returned v) ∧
      ((∃ ys, plS ys = lnsR (numsOf s) ∧ J ys W') ∨ (∃ pre, plS pre <+: lnsR (numsOf s) ∧ Jx pre W')) := by
  refine callsIn_of_wp Tryd.func29 rfl trivial ?_ rfl
  simp only [Tryd.ntmps29, List.size_toArray, List.length_cons, List.length_nil, Nat.reduceAdd, Nat.reduceSub, Array.replicate_succ, Array.replicate_zero, List.push_toArray, List.append_toArray, List.nil_append, List.cons_append]
  gi_wp2
  gi_loopw [3] (fun v wr => ∃ (pre : List Sx) (t : ByteArray), v = .string t ∧ Hid (t.size ≤ s.size) ∧ Hid (plS pre ++ lnsR (numsOf t) = lnsR (numsOf s)) ∧ Hid (J pre wr)) (fun v _ => strLen v)
  case atStart => exact ⟨[], s, rfl, Lib.hid (Nat.le_refl _), Lib.hid rfl, Lib.hid h0⟩
  case round =>
    obtain ⟨pre, t, rfl, HT, HL, HJ⟩ := hrel
    by_cases hlt : t.size = 0
    · have hnil : numsOf t = [] := List.length_eq_zero_iff.1 (by rw [numsOf_length]; exact hlt)
      have hie : t.toList.isEmpty = true := by
        have h1 := congrArg List.length (numsOf_toList t)
        rw [hnil, List.length_nil, List.length_map] at h1
        rw [List.isEmpty_iff]
        exact List.length_eq_zero_iff.1 h1.symm
      gi_wp2
      go_end0
      refine ⟨⟨_, rfl⟩, .inl ⟨pre, ?_, HJ.out⟩⟩
      have := HL.out
      rwa [hnil, lnsR_nil, List.append_nil] at this
    · have hne : numsOf t ≠ [] := fun e => hlt (by rw [← numsOf_length, e]; rfl)
      have hie : t.toList.isEmpty = false := by
        rw [List.isEmpty_eq_false_iff]
        intro e
        apply hne
        rw [numsOf_toList, e]
        rfl
      obtain ⟨hN1, hN2⟩ := lns_next hne
      have HN1 := Lib.hid hN1
      have HC := Lib.hid fun W => scut_any t 10 W (by have := HT.out; omega)
      rw [show (((10 : UInt8).toNat : Nat) : Int) = 10 from rfl] at HC
      unfold cutV at HC
      obtain ⟨hza, hzb⟩ := cutA_size 10 t
      obtain ⟨hna, hnb⟩ := cutA_nums 10 t
      have HLB : Hid ((strOfNums (cutB 10 (numsOf t))).size < t.size) := Lib.hid (by rw [← numsOf_length, ← numsOf_length, hnb]; exact hN2)
      rw [← hnb] at HN1
      obtain ⟨one, h1⟩ : ∃ o, strOfNums (cutA 10 (numsOf t)) = o := ⟨_, rfl⟩
      obtain ⟨beh, h2⟩ : ∃ o, strOfNums (cutB 10 (numsOf t)) = o := ⟨_, rfl⟩
      obtain ⟨bo, h3⟩ : ∃ o, (cutC 10 (numsOf t)).isSome = o := ⟨_, rfl⟩
      rw [h1, h2, h3] at HC
      rw [h1, h2, h3] at HN1
      rw [h2] at HLB
      rw [h1] at hza
      obtain ⟨X, hX⟩ : ∃ X : Sx, X.1 = (one, bo) := ⟨⟨(one, bo), by have := HT.out; show one.size ≤ _; omega⟩, rfl⟩
      have HX := Lib.hid hX
      clear hN1 hN2 hza hzb hna hnb h1 h2 h3 hne hlt hX
      gi_wp2_with fail
      refine ⟨trivial, ?_⟩
      refine (callsIn_wide.2 (HC.out _)).mono ?_
      rintro e w1 ⟨rfl, q1, hw1⟩
      have hbw : Below wr.heap.size wr w1 := by rw [hw1]; exact below_drewN (Below.refl _ _) _
      have hJ1 : J pre w1 := hJ _ wr w1 none HJ.out (grown_below' hbw) (fun r e => by cases e)
      have HL2 : Hid (plS (pre ++ [X]) ++ lnsR (numsOf beh) = lnsR (numsOf s)) := Lib.hid (by
        rw [plS_snoc, HX.out, List.append_assoc, List.singleton_append, ← HN1.out]
        exact HL.out)
      have hlen : pre.length < (lnsR (numsOf s)).length := by
        have := congrArg List.length HL2.out
        rw [List.length_append] at this
        unfold plS at this
        rw [List.length_map, List.length_append, List.length_singleton] at this
        omega
      obtain ⟨fn, tmps, assign, body, hy, hR⟩ := hY pre X w1 hJ1 hlen
      unfold encSx at hy
      rw [HX.out] at hy
      dsimp only at hy
      clear hbw hJ1 hlen hw1 HJ HL HC HN1
      gi_wp2
      refine hR.mono ?_
      rintro e W3 (⟨rfl, hJ3, hk3⟩ | ⟨rfl, hJx3⟩)
      · gi_wp2
        go_roundw
        case rel => exact ⟨pre ++ [X], beh, rfl, Lib.hid (by have := HT.out; have := HLB.out; omega), HL2, Lib.hid hJ3⟩
        case measure => rw [strLen_string, strLen_string]; exact HLB.out
      · gi_wp2
        refine bodyPost_ret (results_none rfl _ _ _) rfl ?_
        exact ⟨⟨_, rfl⟩, .inr ⟨pre ++ [X], ⟨_, HL2.out⟩, hJx3⟩⟩
/-- the iterator, as the law of the loop wants it -/
theorem mlns_stops (n : Nat) (hn : 1 ≤ n) (Bn : Nat) (s : ByteArray) (hs : s.size ≤ 1048576) (Kp : World → World → Prop) (w : World) (hB : Boxed w Bn 9 (.string s)) :
    SeqStopsK Fence.wide n Tryd.prog 29 #[.pointer (some ⟨Bn, 0, none⟩)] encSx Kp (fun ys => plS ys = lnsR (numsOf s)) (fun pre => plS pre <+: lnsR (numsOf s)) (lnsR (numsOf s)).length w := fun l J Jx W hW hJ _ hY h0 =>
  mlns1_in n hn l Bn s hs Kp J Jx W hJ hY (by rw [hW.cell (p := ⟨Bn, 0, none⟩) hB.lt]; exact hB.cell) h0
theorem mlines_any (s : ByteArray) (w : World) : Calls Tryd.prog 19 #[.string s] w fun e w' => e = .returned (.func (.func 29) #[] #[.pointer (some ⟨w.heap.size, 0, none⟩)]) ∧ w.alloc (.cells #[.string s] 9) = w' := by
  go_enter Tryd.func19, Tryd.ntmps19
  go_wp2
  go_ret
  exact ⟨rfl, rfl⟩
end Go.Proofs.YtahjofjblhpndaaDoor
