/- Layer 9: the program's change: a change of bytes of the call's own. -/
import Derived.Test.YtapobakolnlpmaaWriG
import Derived.StillTailTactics
namespace Go.Proofs.Ytapobakolnlpmaa
set_option linter.unusedVariables false
open Go.RowKit Go.Lib

/-- grown by bytes 0, then written over: just what a write leaves -/
theorem put_code (zs d : List Int) (o : Nat) (hd : d ≠ []) :
    (zs ++ List.replicate (o + d.length - zs.length) 0).take o ++ d ++ (zs ++ List.replicate (o + d.length - zs.length) 0).drop (o + d.length) = putP zs o d := by
  rw [putP, if_neg hd]
  have h0 : 0 < d.length := List.length_pos_iff.2 hd
  have e1 : (zs ++ List.replicate (o + d.length - zs.length) (0 : Int)).take o = zs.take o ++ List.replicate (o - zs.length) 0 := by
    rw [List.take_append, List.take_replicate]
    congr 2
    omega
  have e2 : (zs ++ List.replicate (o + d.length - zs.length) (0 : Int)).drop (o + d.length) = zs.drop (o + d.length) := by
    rw [List.drop_append, List.drop_replicate]
    rw [show o + d.length - zs.length - (o + d.length - zs.length) = 0 by omega]
    simp
  rw [e1, e2]

/-- the first bytes of a row of the call's own -/
theorem Ob.first {w : World} {B n cap : Nat} {p : Option Addr} {e : TypeId} {zs : List Int} (h : Ob w B e (.slice p n cap) zs) (m : Nat) (hm : m ≤ n) : Ob w B e (.slice p m cap) (zs.take m) := by
  obtain ⟨hb, hl, h2⟩ := h
  have hby : ∀ j, 0 ≤ (zs.take m).getD j 0 ∧ (zs.take m).getD j 0 < 256 := fun j => by
    rw [List.getD_eq_getElem?_getD, List.getElem?_take]
    split
    · rw [← List.getD_eq_getElem?_getD]; exact hb j
    · simp
  rcases h2 with ⟨hv, h0⟩ | ⟨g, cap', cur, hv, hB, hg, hn, hc, hs, ht⟩
  · simp only [Value.slice.injEq] at hv
    obtain ⟨rfl, rfl, rfl⟩ := hv
    obtain rfl : m = 0 := by omega
    refine ⟨hby, by simp, Or.inl ⟨rfl, by simp⟩⟩
  · simp only [Value.slice.injEq] at hv
    obtain ⟨rfl, hnl, rfl⟩ := hv
    have hml : (zs.take m).length = m := by rw [List.length_take]; omega
    refine ⟨hby, by simp, Or.inr ⟨g, cap, cur, by rw [hml], hB, hg, by omega, hc, hs, ?_⟩⟩
    rw [hml]
    have := congrArg (List.take (m * 1)) ht
    rw [List.take_take, Nat.min_eq_left (by simp; omega)] at this
    rw [this]
    simp [List.map_take]

/-- 'copy(s[o:], x)', s a row of the call's own that is long enough. -/
theorem wpList_copy_at {P : Program} {w : World} {ops : Array Oper} {rest : List Oper} {op : Oper} {a : Act} {Q : Exit → Act → World → Prop} (hgd : op.guard = none) (d s : Operand) (dT sT e : TypeId)
    (ho : op.op = .call { callee := .builtin .copy, args := #[d, s], argTypes := #[dT, sT] }) (hu : P.underlying dT = some (.slice e)) (hsz : (P.info? e).map (·.size) = some 1)
    (B g o m n len cap cap' sCap : Nat) (sp : Option Addr) (zs ys : List Int) (hd : a.eval d = .slice (some ⟨g, o, none⟩) m cap') (hs : a.eval s = .slice sp n sCap)
    (hob : Ob w B e (.slice (some ⟨g, 0, none⟩) len cap) zs) (hbs : Bs w sp n ys) (hn : 0 < n) (hm : n ≤ m) (hon : o + n ≤ len)
    (h : ∀ w', Ob w' B e (.slice (some ⟨g, 0, none⟩) len cap) (zs.take o ++ ys ++ zs.drop (o + n)) → w.grownBy w' (some g) → wpList P ops Q rest (a.put op.dst (goInt n)) w') : wpList P ops Q (op :: rest) a w := by
  obtain ⟨hb0, hl, h2⟩ := hob
  obtain ⟨hz1, hz2, hz3⟩ := hbs
  rcases h2 with ⟨h0, _⟩ | ⟨g', cap2, cur, hv, hB, hg, hnc, hcm, hcs, ht⟩
  · cases h0
  · simp only [Value.slice.injEq, Option.some.injEq, Addr.mk.injEq, and_true] at hv
    obtain ⟨rfl, hyl, rfl⟩ := hv
    rcases hz3 with h0' | ⟨b, off, rfl, hc⟩
    · omega
    · have hcl : (ys.map (Value.int .u8)).length = n := by simpa using hz1
      have hcs' : cur.toList.length = cap := by simpa using hcs
      refine wpList_copy_own hgd d s dT sT ho e hu hsz g o m cap' ⟨b, off, none⟩ n sCap hd hs cur e hg (ys.map (Value.int .u8)) (by rw [hcl]; exact (Nat.min_eq_left hm).symm) ?_ (by rw [hcl]; rw [Array.length_toList] at hcs'; omega) ?_ ?_
      · intro j u hj
        have hjn : j < n := by
          rcases Nat.lt_or_ge j n with h | h
          · exact h
          · rw [List.getElem?_eq_none (by omega)] at hj; cases hj
        rw [WideShapes.add_plain, hc j hjn]
        rw [List.getElem?_map] at hj
        rw [List.getD_eq_getElem?_getD]
        rw [List.getElem?_eq_getElem (by omega)] at hj ⊢
        simpa using hj
      · intro u hu'
        obtain ⟨z, _, rfl⟩ := List.mem_map.1 hu'
        rfl
      · rw [hcl]
        have hbl := setRow_heap w g cur (cur.toList.take o ++ (ys.map (Value.int .u8) ++ cur.toList.drop (o + n))).toArray e (0, 0) hg
        have hnl : (zs.take o ++ ys ++ zs.drop (o + n)).length = len := by
          simp only [List.length_append, List.length_take, List.length_drop, hz1]
          omega
        have hby : ∀ j, 0 ≤ (zs.take o ++ ys ++ zs.drop (o + n)).getD j 0 ∧ (zs.take o ++ ys ++ zs.drop (o + n)).getD j 0 < 256 := by
          refine bytes_append (bytes_append (fun j => ?_) hz2) (fun j => ?_)
          · rw [List.getD_eq_getElem?_getD, List.getElem?_take]
            split
            · rw [← List.getD_eq_getElem?_getD]; exact hb0 j
            · simp
          · rw [List.getD_eq_getElem?_getD, List.getElem?_drop, ← List.getD_eq_getElem?_getD]; exact hb0 _
        have hC : cur.toList = zs.map (Value.int .u8) ++ cur.toList.drop len := by
          have ht' : cur.toList.take len = zs.map (Value.int .u8) := by rw [← ht]; simp [hyl]
          rw [← ht', List.take_append_drop]
        have hZ : (zs.map (Value.int .u8)).length = len := by rw [List.length_map]; omega
        have e1 : cur.toList.take o = (zs.take o).map (Value.int .u8) := by
          rw [hC, List.take_append_of_le_length (by omega), List.map_take]
        have e2 : cur.toList.drop (o + n) = (zs.drop (o + n)).map (Value.int .u8) ++ cur.toList.drop len := by
          conv => lhs; rw [hC]
          rw [List.drop_append_of_le_length (by omega), List.map_drop]
        refine h _ ⟨hby, by simp, Or.inr ⟨g, cap, _, by rw [hnl], hB, hbl, by omega, hcm, ?_, ?_⟩⟩ ?_
        · have hd2 : (cur.toList.drop (o + n)).length = cap - (o + n) := by rw [List.length_drop, hcs']
          have hd1 : (cur.toList.take o).length = o := by rw [List.length_take, hcs']; omega
          rw [List.size_toArray, List.length_append, List.length_append, hd1, hd2, hcl]
          omega
        · rw [hnl]
          show (cur.toList.take o ++ (ys.map (Value.int .u8) ++ cur.toList.drop (o + n))).take (len * 1) = _
          rw [e1, e2, ← List.append_assoc, ← List.append_assoc, List.take_append_of_le_length (by
            rw [Nat.mul_one]
            simp only [List.length_append, List.length_map, List.length_take, List.length_drop, hz1]
            omega), List.take_of_length_le (by
            simp only [List.length_append, List.length_map, List.length_take, List.length_drop, hz1]
            omega)]
          simp only [List.map_append]
        · exact ⟨rfl, rfl, rfl, by simp, fun k _ hk => setRow_other w g k _ (fun e => hk (by rw [e]))⟩
end Go.Proofs.Ytapobakolnlpmaa
