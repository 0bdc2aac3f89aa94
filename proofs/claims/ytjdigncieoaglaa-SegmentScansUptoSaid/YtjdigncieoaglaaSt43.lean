/- Layer 16, the law's argument, opened: a whole segment; how many bytes what is built of it has -/
import Derived.Test.YtjdigncieoaglaaSt11
import Derived.Test.YtjdigncieoaglaaSt14
import Derived.Test.YtjdigncieoaglaaSt40
import Derived.Test.YtjdigncieoaglaaSt42
set_option linter.unusedSimpArgs false
set_option linter.unusedVariables false
namespace Go.Proofs.Ytjdigncieoaglaa
set_option linter.unusedVariables false
open Go.RowKit Go.Lib Go.ChangeShapes Go.WideShapes Go.ChangeAt

def rrSz (x : Rr) : Nat := (x.L.map rxSz).sum + 1
theorem makeN_le2 {r : Rc} (hr : r.Ok) (h : rightN r = 0) (hk : 1 ≤ r.k ∧ r.k ≤ 5) : (makeN r).length ≤ 53 + r.da.length + 2 * r.nm.length := by
  have hd := hr.dgl
  rw [makeN_len h]
  unfold dataN
  split
  · rw [List.length_append]; omega
  · split
    · rename_i h1 h3
      have h4 : tagP r.nm = true := by
        unfold rightN at h
        rw [if_neg (by omega), if_neg (by omega)] at h
        by_cases ht : tagP r.nm = true
        · exact ht
        · rw [if_pos ⟨Or.inl h3, by simpa using ht⟩] at h
          omega
      have h5 := tagP_len h4
      simp
      omega
    · split
      · simp; omega
      · split
        · omega
        · omega
theorem frames_le2 : ∀ (L : List Rx) (s : Int), (∀ x ∈ L, x.1.rc.Ok ∧ x.1.da.length ≤ x.1.c ∧ rightN x.1.rc = 0 ∧ 1 ≤ x.1.k ∧ x.1.k ≤ 5) → (framesN (rcL L) s).length + 27 * L.length ≤ 2 * (L.map rxSz).sum
  | [], s, _ => by simp [rcL, framesN]
  | x :: L, s, h => by
    have h1 := frames_le2 L (s + 1) fun y hy => h y (by simp [hy])
    obtain ⟨h2, h3, h4, h5, h6⟩ := h x (by simp)
    have h7 := makeN_le2 (h2.num s) (show rightN (x.1.rc.num s) = 0 from h4) ⟨h5, h6⟩
    have h8 : (x.1.rc.num s).da = x.1.da := rfl
    have h9 : (x.1.rc.num s).nm = numsOf x.1.nm := rfl
    rw [h8, h9, numsOf_length] at h7
    have e : framesN (rcL (x :: L)) s = makeN (x.1.rc.num s) ++ framesN (rcL L) (s + 1) := rfl
    rw [e, List.length_append, List.map_cons, List.sum_cons, List.length_cons]
    unfold rxSz at *
    omega
theorem batN_le {x : Rr} {w : World} (hf : x.Fit w) (hw : wrongN (rcL x.L) = 0) (s : Int) : (batN (rcL x.L) s).length ≤ 2 * rrSz x := by
  obtain ⟨h1, h2, h3⟩ := wrongN_zero hw
  have hm : ∀ y ∈ x.L, y.1.rc ∈ rcL x.L := fun y hy => List.mem_map_of_mem (f := fun z : Rx => z.1.rc) hy
  have h4 := frames_le2 x.L s fun y hy => ⟨(hf.rcs y hy).1.ok, by have h1 := (hf.rcs y hy).1; rw [h1.bs.len]; exact h1.nc, h3 _ (hm y hy), (h2 _ (hm y hy)).1, (h2 _ (hm y hy)).2⟩
  have h5 : 0 < x.L.length := List.length_pos_iff.2 fun e => h1 (by rw [e]; rfl)
  have h6 : (makeN (commitN (s + (rcL x.L).length) (rcL x.L).length (framesN (rcL x.L) s).length)).length ≤ 29 := by
    unfold makeN
    split
    · rw [frmN_length]
      show (putN _ 4 ++ putN _ 4).length + 21 ≤ 29
      rw [List.length_append, putN_length, putN_length]
      decide
    · simp
  unfold batN rrSz
  rw [List.length_append]
  omega
theorem bdGo_le {w : World} : ∀ (LL : List Rr) (s : Int) (b : List Int) (m : Nat), (∀ x ∈ LL, x.Fit w) → (bdGo (rcLL LL) s b m).b.length ≤ b.length + 2 * (LL.map rrSz).sum
  | [], s, b, m, _ => by simp [rcLL, bdGo]
  | x :: LL, s, b, m, h => by
    have e : rcLL (x :: LL) = rcL x.L :: rcLL LL := rfl
    rw [e]
    unfold bdGo
    split
    · simp
    · rename_i h1
      have h2 := batN_le (h x (by simp)) (bmE_zero (Decidable.of_not_not h1)).1 s
      have h3 := bdGo_le LL (s + (rcL x.L).length + 1) (b ++ batN (rcL x.L) s) (m + (rcL x.L).length) fun y hy => h y (by simp [hy])
      rw [List.length_append] at h3
      rw [List.map_cons, List.sum_cons]
      omega
theorem makeN_head (n s : Int) : (makeN (headN n s)).length ≤ 37 := by
  unfold makeN
  split
  · rw [frmN_length]
    show (magN ++ putN _ 8).length + 21 ≤ 37
    rw [List.length_append, putN_length]
    simp [magN]
  · simp
theorem makeN_foot (s n z : Int) : (makeN (footN s n z)).length ≤ 29 := by
  unfold makeN
  split
  · rw [frmN_length]
    show (putN _ 4 ++ putN _ 4).length + 21 ≤ 29
    rw [List.length_append, putN_length, putN_length]
    decide
  · simp
/-- the bytes of what is built -/
theorem buB_le {w : World} {LL : List Rr} (n s : Int) (sl : Bool) (hf : ∀ x ∈ LL, x.Fit w) (hz : (LL.map rrSz).sum ≤ 1048571) : (buB n s (rcLL LL) sl).length ≤ 2097216 := by
  have h1 := bdGo_le LL (nxtU s) (makeN (headN n s)) 0 hf
  have h2 := makeN_head n s
  have h3 := makeN_foot (bdG n s (rcLL LL)).s (bdG n s (rcLL LL)).m (bdG n s (rcLL LL)).b.length
  have h4 : (bdG n s (rcLL LL)).b.length ≤ (makeN (headN n s)).length + 2 * (LL.map rrSz).sum := h1
  unfold buB
  split
  · split
    · rw [List.length_append]
      omega
    · omega
  · simp
section
variable {H : Type} {enc : TypeId × Value → H} {W : World} {base : Nat} {held : Bool}
theorem open_rr (fuel : Nat) (cs : List Value) (x : DataW H × List MemPlace) (h : DataW.trod enc Try.prog W base (fun _ => true) held fuel encRr.t cs = some x) :
    ∃ q : Rr, cs = encRr.f q ∧ (rrSz q ≤ 1048576 → q.Fit W) ∧ rrSz q ≤ Rows.uptoBulk x.1 := by
  have h' : DataW.trod enc Try.prog W base (fun _ => true) held fuel 46 cs = some x := h
  obtain ⟨p, n, c, hv0⟩ : ∃ p n c, cs = [.slice p n c] := by
    rcases DataW.trod_slice Try.underlying46 h' with ⟨hcs, _⟩ | ⟨a, len', cap', elems, rest, n', _, hcs, _⟩
    · exact ⟨_, _, _, hcs⟩
    · exact ⟨_, _, _, hcs⟩
  subst hv0
  obtain ⟨hlc, hpc, L, hg, hf, hs⟩ := open_recs' h'
  refine ⟨⟨p, n, c, L⟩, rfl, fun hz => ?_, hs⟩
  have hz' : (L.map rxSz).sum + 1 ≤ 1048576 := hz
  have hmem : ∀ x ∈ L, x.1.Fit W ∧ x.1.n ≤ 1048576 := fun q hq => by
    have h1 := sum_mem (List.mem_map_of_mem (f := rxSz) hq)
    have h3 : q.1.c + q.1.nm.size + 40 = rxSz q := rfl
    have h2 := hf q hq (by omega)
    exact ⟨h2, by have := h2.nc; omega⟩
  have h1x : ∀ x : Rx, 1 ≤ rxSz x := fun x => by unfold rxSz; omega
  have hlen : L.length ≤ (L.map rxSz).sum := sum_len h1x L
  have hLn := hg.len
  have h2 := frames_le L 0 fun q hq => ⟨(hmem q hq).1.ok, by have h1 := (hmem q hq).1; rw [h1.bs.len]; exact h1.nc⟩
  refine ⟨hg, hpc, hlc, hmem, ?_, ?_⟩
  · show n ≤ 1048576
    omega
  · show (framesN (rcL L) 0).length ≤ 2097216
    omega
set_option maxRecDepth 100000 in
theorem open_whL (fuel : Nat) (cs : List Value) (x : DataW H × List MemPlace) (h : DataW.trod enc Try.prog W base (fun _ => true) held fuel 44 cs = some x) (hk : Rows.uptoBulk x.1 ≤ 1048576) :
    ∃ n s p m c LL sl, cs = [.int .i64 n, .int .u64 s, .slice p m c, .bool sl] ∧ Gs encRr W p m LL ∧ (∀ x ∈ LL, x.Fit W) ∧ m ≤ 1048576 ∧ (buB n s (rcLL LL) sl).length ≤ 2097216 ∧ (-9223372036854775808 ≤ n ∧ n ≤ 9223372036854775807) ∧ (0 ≤ s ∧ s < 18446744073709551616) := by
  obtain ⟨y0, y1, y2, y3, m, hx, hl, h0, h1, h2, h3⟩ := trod_struct4B Try.underlying44 h
  have ec : Try.prog.cellsOf 44 = 4 := by kernel_rfl
  rw [ec] at hl
  match cs, hl with
  | [v0, v1, v2, v3], _ =>
    have e0 : Try.prog.cellsOf 3 = 1 := by kernel_rfl
    have e1 : Try.prog.cellsOf 22 = 1 := by kernel_rfl
    have e2 : Try.prog.cellsOf 42 = 1 := by kernel_rfl
    have e3 : Try.prog.cellsOf 4 = 1 := by kernel_rfl
    simp only [e0, e1, e2, e3, List.drop_succ_cons, List.drop_zero, List.take_succ_cons, List.take_zero] at h0 h1 h2 h3
    rw [hx] at hk
    simp only [Rows.uptoBulk, Rows.uptoBulkAll] at hk
    obtain ⟨n, hn, hy0, hw0⟩ := DataW.trod_int Try.underlying3 h0
    obtain ⟨s, hs, hy1, hw1⟩ := DataW.trod_int Try.underlying22 h1
    obtain ⟨p, k, c, hv2⟩ : ∃ p n c, v2 = .slice p n c := by
      rcases DataW.trod_slice Try.underlying42 h2 with ⟨hcs, _⟩ | ⟨a, len', cap', elems, rest, n', _, hcs, _⟩
      · simp only [List.cons.injEq, and_true] at hcs
        exact ⟨_, _, _, hcs⟩
      · simp only [List.cons.injEq, and_true] at hcs
        exact ⟨_, _, _, hcs⟩
    obtain ⟨sl, hb, hy3⟩ := DataW.trod_bool Try.underlying4 h3
    simp only [List.cons.injEq, and_true] at hn hs hb
    subst hn hs hv2 hb
    obtain ⟨hl0, hm0, hp0, LL, hL, hLo, hLs⟩ := open_gs encRr Try.underlying42 (by kernel_rfl) rrSz (fun q => rrSz q ≤ 1048576 → q.Fit W) open_rr h2
    simp only [hy0, hy1, hy3, Rows.uptoBulk] at hk
    have hsum : (LL.map rrSz).sum ≤ 1048571 := by omega
    have hfit : ∀ x ∈ LL, x.Fit W := fun q hq => by
      have h1 := sum_mem (List.mem_map_of_mem (f := rrSz) hq)
      exact hLo q hq (by omega)
    have h1x : ∀ x : Rr, 1 ≤ rrSz x := fun x => by unfold rrSz; omega
    have hlen : LL.length ≤ (LL.map rrSz).sum := sum_len h1x LL
    have hLn := hL.len
    exact ⟨n, s, p, k, c, LL, sl, rfl, hL, hfit, by omega, buB_le n s sl hfit hsum, wf_i64 hw0, wf_u64 hw1⟩
set_option maxRecDepth 100000 in
theorem open_whole {r : Reach} {b0 : Nat} {v : Value} {d : DataW H} {ps : List MemPlace} (hv : Value.okWide Try.prog W r b0 44 v)
    (h : DataW.Trod enc Try.prog W base (fun _ => true) held 44 v d ps) (hk : Rows.uptoBulk d ≤ 1048576) :
    ∃ n s p m c LL sl, v = whV n s p m c sl ∧ Gs encRr W p m LL ∧ (∀ x ∈ LL, x.Fit W) ∧ m ≤ 1048576 ∧ (buB n s (rcLL LL) sl).length ≤ 2097216 ∧ (-9223372036854775808 ≤ n ∧ n ≤ 9223372036854775807) ∧ (0 ≤ s ∧ s < 18446744073709551616) := by
  obtain ⟨cs, rfl, hsz⟩ := okWide_struct Try.underlying44 hv
  obtain ⟨fuel, hf⟩ := h
  obtain ⟨n, s, p, m, c, LL, sl, e, g⟩ := open_whL fuel cs.toList (d, ps) hf hk
  refine ⟨n, s, p, m, c, LL, sl, ?_, g⟩
  unfold whV
  congr 1
  exact Array.toList_inj.1 e
end
end Go.Proofs.Ytjdigncieoaglaa
