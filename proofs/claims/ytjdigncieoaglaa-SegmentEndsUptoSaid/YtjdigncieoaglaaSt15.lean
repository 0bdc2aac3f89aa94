/- Words are compared -/
import Derived.Test.YtjdigncieoaglaaSt11
import Derived.DeepKeys
set_option linter.unusedSimpArgs false
set_option linter.unusedVariables false
namespace Go.Proofs.Ytjdigncieoaglaa
set_option linter.unusedVariables false
open Go.RowKit Go.Lib

/-- a word that can be -/
structure Wq.Ok (x : Wq) : Prop where
  k : -9223372036854775808 ≤ x.k ∧ x.k ≤ 9223372036854775807
  s : 0 ≤ x.s ∧ x.s < 18446744073709551616
  dg : dok x.dg
  nm : x.nm.size ≤ maxLen
  z : -9223372036854775808 ≤ x.z ∧ x.z ≤ 9223372036854775807
  seg : -9223372036854775808 ≤ x.seg ∧ x.seg ≤ 9223372036854775807
  off : -9223372036854775808 ≤ x.off ∧ x.off ≤ 9223372036854775807
  len : -9223372036854775808 ≤ x.len ∧ x.len ≤ 9223372036854775807
theorem key_int (D : Nat) {n : Int} (h : -9223372036854775808 ≤ n ∧ n ≤ 9223372036854775807) : Try.prog.keyLits (D + 1) 3 [.int .i64 n] = some [.int .i64 n] := by
  unfold Program.keyLits
  rw [Try.underlying3]
  simp [Lit.wf, IntKind.min, IntKind.max, IntKind.signed, IntKind.bits]
  omega
theorem key_u64 (D : Nat) {n : Int} (h : 0 ≤ n ∧ n < 18446744073709551616) : Try.prog.keyLits (D + 1) 22 [.int .u64 n] = some [.int .u64 n] := by
  unfold Program.keyLits
  rw [Try.underlying22]
  simp [Lit.wf, IntKind.min, IntKind.max, IntKind.signed, IntKind.bits]
  omega
theorem key_str (D : Nat) {s : ByteArray} (h : s.size ≤ maxLen) : Try.prog.keyLits (D + 1) 9 [.string s] = some [.string s.data.toList] := by
  unfold Program.keyLits
  rw [Try.underlying9]
  simp [h]
theorem key_dig {l : List Int} (h : dok l) : ∃ ls, Try.prog.keyLits 3 27 (l.map (Value.int .u8)) = some ls := by
  refine ⟨((List.range 32).map fun i => [Lit.int .u8 (l.getD i 0)]).flatten, ?_⟩
  unfold Program.keyLits
  rw [Try.underlying27]
  have hk := digest_keys l h
  rw [show (bcs l).toList = l.map (Value.int .u8) by simp [bcs]] at hk
  simp only [List.length_map, h.1, cells24, if_true]
  rw [hk]
  rfl
set_option maxRecDepth 100000 in
theorem key_loc {a b c : Int} (ha : -9223372036854775808 ≤ a ∧ a ≤ 9223372036854775807) (hb : -9223372036854775808 ≤ b ∧ b ≤ 9223372036854775807) (hc : -9223372036854775808 ≤ c ∧ c ≤ 9223372036854775807) :
    ∃ ls, Try.prog.keyLits 3 48 [.int .i64 a, .int .i64 b, .int .i64 c] = some ls := by
  refine ⟨[.int .i64 a, .int .i64 b, .int .i64 c], ?_⟩
  have ec : Try.prog.cellsOf 48 = 3 := by kernel_rfl
  have e0 : Try.prog.cellsOf 3 = 1 := by kernel_rfl
  unfold Program.keyLits
  rw [Try.underlying48]
  simp [ec, e0, key_int 1 ha, key_int 1 hb, key_int 1 hc]
set_option maxRecDepth 100000 in
theorem key_word {x : Wq} (h : x.Ok) : ∃ ls, Try.prog.keyLits 4 50 (mixL x.a x.dg x.t) = some ls := by
  obtain ⟨l2, h2⟩ := key_dig h.dg
  obtain ⟨l5, h5⟩ := key_loc h.seg h.off h.len
  have ec : Try.prog.cellsOf 50 = 39 := by kernel_rfl
  have e0 : Try.prog.cellsOf 3 = 1 := by kernel_rfl
  have e1 : Try.prog.cellsOf 22 = 1 := by kernel_rfl
  have e3 : Try.prog.cellsOf 9 = 1 := by kernel_rfl
  have e4 : Try.prog.cellsOf 48 = 3 := by kernel_rfl
  have hl : (mixL x.a x.dg x.t).length = 39 := by rw [mixL_length, h.dg.1]; rfl
  have hm : mixL x.a x.dg x.t = .int .i64 x.k :: .int .u64 x.s :: (x.dg.map (Value.int .u8) ++ x.t) := rfl
  have hd : ∀ j, (x.dg.map (Value.int .u8) ++ x.t).drop (32 + j) = x.t.drop j := fun j => by
    rw [List.drop_append, List.drop_of_length_le (by rw [List.length_map, h.dg.1]; omega), List.length_map, h.dg.1, List.nil_append, Nat.add_sub_cancel_left]
  have ht : (x.dg.map (Value.int .u8) ++ x.t).take 32 = x.dg.map (Value.int .u8) := by
    rw [List.take_left' (by rw [List.length_map, h.dg.1])]
  have p0 := hd 0
  have p1 := hd 1
  have p2 := hd 2
  simp only [Nat.add_zero, Nat.reduceAdd, List.drop_zero] at p0 p1 p2
  unfold Program.keyLits
  rw [Try.underlying50]
  simp only [hl, ec, true_and]
  rw [if_pos (by kernel_rfl)]
  rw [hm]
  simp only [List.mapM_cons, List.mapM_nil, e0, e1, e3, e4, cells24, List.drop_zero, List.drop_succ_cons, List.take_succ_cons, List.take_zero, ht, p0, p1, p2, h2, key_int 2 h.k, key_u64 2 h.s]
  have t0 : List.take 1 x.t = [.string x.nm] := rfl
  have t1 : List.take 1 (List.drop 1 x.t) = [.int .i64 x.z] := rfl
  have t2 : List.take 3 (List.drop 2 x.t) = [.int .i64 x.seg, .int .i64 x.off, .int .i64 x.len] := rfl
  rw [t0, t1, t2, key_str 2 h.nm, key_int 2 h.z, h5]
  exact ⟨_, rfl⟩
set_option maxRecDepth 100000 in
theorem word_eq {x : Wq} (h : x.Ok) (W : World) : (Op.equalIn 10000 50 (.agg (mixC x.a x.dg x.t)) (.agg (mixC x.a x.dg x.t))).run Try.prog W = .ok true W := by
  obtain ⟨ls, hls⟩ := key_word h
  have hf : Value.formed Try.prog 50 (.agg (mixC x.a x.dg x.t)) = true := by
    unfold Value.formed
    rw [Try.underlying50]
    simp only [x.size h.dg.1]
    kernel_rfl
  obtain ⟨r, hr, hiff⟩ := run_equalIn_deep (P := Try.prog) 9996 4 50 (by kernel_rfl) W 4 4 _ _ ls ls hf hf hls hls
  rw [hiff.2 rfl] at hr
  exact hr
theorem wordQ_ok {x : Rq} {w : World} (h : x.Fit w) (hn : x.n ≤ 2097216) {seg off len : Int} (h1 : -9223372036854775808 ≤ seg ∧ seg ≤ 9223372036854775807) (h2 : -9223372036854775808 ≤ off ∧ off ≤ 9223372036854775807) (h3 : -9223372036854775808 ≤ len ∧ len ≤ 9223372036854775807) : (wordQ x seg off len).Ok := by
  have hz : (0 : Nat) ≤ maxLen := Nat.zero_le _
  have hnm : x.nm.size ≤ maxLen := Nat.le_trans h.nm (by unfold maxLen; omega)
  have hZ := h.Z
  unfold wordQ
  split
  · exact ⟨h.k, h.s, dok_zero, hz, i64_zero, h1, h2, h3⟩
  · refine ⟨h.k, h.s, ?_, ?_, ?_, h1, h2, h3⟩
    · dsimp only; split
      · exact h.dg
      · exact dok_zero
    · dsimp only; split
      · exact hnm
      · exact hz
    · dsimp only; split
      · omega
      · split <;> omega
end Go.Proofs.Ytjdigncieoaglaa
