/- Digests: arrays of 32 bytes, compared as whole values; rows of them in memory; A digest whose first byte is 1; The reference of layer 6: Same -/
import Derived.Test.YtieednadbcghjaaTg2
import Derived.Test.YtieednadbcghjaaTg5
import Derived.ChangeKeysEq
import Derived.OpenShut
set_option linter.unusedSimpArgs false
set_option linter.unusedVariables false
namespace Go.Proofs.Ytieednadbcghjaa
set_option linter.unusedVariables false
open Go.RowKit Go.Lib

def dok (d : List Int) : Prop := d.length = 32 ∧ ∀ j, 0 ≤ d.getD j 0 ∧ d.getD j 0 < 256
def dzero : List Int := List.replicate 32 0
theorem dok_zero : dok dzero := ⟨rfl, bytes_replicate 32⟩

theorem key8 (D : Nat) (x : Int) (h : 0 ≤ x ∧ x < 256) : Try.prog.keyLits (D + 1) 5 [.int .u8 x] = some [.int .u8 x] := by
  unfold Program.keyLits
  rw [Try.underlying5]
  simp [Lit.wf, IntKind.min, IntKind.max, IntKind.signed, IntKind.bits]
  omega
theorem mapM_keys (P : Program) (D : Nat) (e : TypeId) (f : Nat → List Value) (g : Nat → List Lit) : ∀ is : List Nat, (∀ i ∈ is, P.keyLits D e (f i) = some (g i)) → is.mapM (fun i => P.keyLits D e (f i)) = some (is.map g)
  | [], _ => rfl
  | i :: is, h => by
    rw [List.mapM_cons, h i (by simp), mapM_keys P D e f g is (fun j hj => h j (by simp [hj]))]
    rfl
theorem info8' : ∃ i, Try.prog.info? 5 = some i := info_of_underlying Try.underlying5
theorem plain8 : Try.prog.plainKey 5 = true := by kernel_rfl
theorem digest_keys (l : List Int) (h : dok l) : (List.range 32).mapM (fun i => Try.prog.keyLits 2 5 (((bcs l).toList.drop (i * Try.prog.cellsOf 5)).take (Try.prog.cellsOf 5))) = some ((List.range 32).map fun i => [.int .u8 (l.getD i 0)]) :=
  mapM_keys Try.prog 2 5 (fun i => (((bcs l).toList.drop (i * Try.prog.cellsOf 5)).take (Try.prog.cellsOf 5))) (fun i => [.int .u8 (l.getD i 0)]) (List.range 32) (fun i hi => by
    have hi' : i < l.length := by rw [h.1]; exact List.mem_range.1 hi
    rw [cells8, Nat.mul_one]
    have e : ((bcs l).toList.drop i).take 1 = [.int .u8 (l.getD i 0)] := by
      simp only [bcs, List.toList_toArray]
      rw [List.drop_eq_getElem_cons (by simpa using hi')]
      simp [List.getD_eq_getElem?_getD, hi']
    rw [e]
    exact key8 1 _ (h.2 i))
theorem flat_one {α : Type} (f : Nat → α) : ∀ is : List Nat, (is.map fun i => [f i]).flatten = is.map f
  | [] => rfl
  | i :: is => by rw [List.map_cons, List.flatten_cons, flat_one f is]; rfl
theorem digest_ext {l m : List Int} (hl : l.length = 32) (hm : m.length = 32) (h : ∀ i, i < 32 → l.getD i 0 = m.getD i 0) : l = m := by
  apply List.ext_getElem (by omega)
  intro i h1 h2
  have := h i (by omega)
  simpa [List.getD_eq_getElem?_getD, h1, h2] using this
theorem digest_eq (l m : List Int) (hl : dok l) (hm : dok m) (W : World) : (Op.equalIn 10000 29 (.agg (bcs l)) (.agg (bcs m))).run Try.prog W = .ok (decide (l = m)) W := by
  obtain ⟨i, hi⟩ := info8'
  rw [run_equalIn_array W 9999 (bcs l) (bcs m) Try.underlying29 hi]
  obtain ⟨r, hr, hr2⟩ := run_eqItems_plain W 9998 plain8 (bcs l) (bcs m) (List.range 32) _ _ (digest_keys l hl) (digest_keys m hm)
  have hrr : r = decide (l = m) := by
    rw [Bool.eq_iff_iff, hr2, decide_eq_true_iff]
    constructor
    · intro h
      refine digest_ext hl.1 hm.1 fun i hi => ?_
      rw [flat_one, flat_one] at h
      have h1 := congrArg (fun x => x[i]?) h
      simp [hi] at h1
      simpa [List.getD_eq_getElem?_getD] using h1
    · intro h; rw [h]
  rw [hr, hrr]

theorem cells24 : Try.prog.cellsOf 29 = 32 := by kernel_rfl
/-- A digest, opened. -/
theorem open_dig {H : Type} {enc : TypeId × Value → H} {W : World} {base : Nat} {sp : Nat → Bool} {held : Bool} {fuel : Nat} {cs : List Value} {x : DataW H × List MemPlace} (h : DataW.trod enc Try.prog W base sp held fuel 29 cs = some x) :
    ∃ zs, dok zs ∧ cs = zs.map (Value.int .u8) ∧ Rows.uptoBulk x.1 = 33 ∧ x.2 = [] := by
  obtain ⟨xs, m, rfl, rfl, hl, hn, hi⟩ := DataW.trod_array Try.underlying29 h
  rw [cells24] at hl
  have hc : ∀ i, i < 32 → ∃ n : Int, cs[i]? = some (.int .u8 n) ∧ (0 ≤ n ∧ n < 256) ∧ xs[i]? = some (.lit (.int .u8 n), []) := by
    intro i hi32
    have h1 := hi i hi32
    rw [cells8, Nat.mul_one, List.drop_eq_getElem_cons (by omega)] at h1
    simp only [List.take_succ_cons, List.take_zero] at h1
    have hx : xs[i]? = some (xs[i]'(by omega)) := List.getElem?_eq_getElem _
    rw [hx] at h1
    obtain ⟨n, h2, h3, h4⟩ := DataW.trod_int Try.underlying5 h1
    refine ⟨n, ?_, ?_, by rw [hx, h3]⟩
    · rw [List.getElem?_eq_getElem (by omega)]
      simpa using h2
    · have := h4
      simp [Lit.wf, IntKind.min, IntKind.max, IntKind.signed, IntKind.bits] at this
      omega
  refine ⟨cs.map intOf, ⟨by simpa using hl, fun j => ?_⟩, ?_, ?_, ?_⟩
  · by_cases hj : j < 32
    · obtain ⟨n, h1, h2, _⟩ := hc j hj
      rw [List.getD_eq_getElem?_getD, List.getElem?_map, h1]
      exact h2
    · rw [List.getD_eq_getElem?_getD, List.getElem?_eq_none (by simp; omega)]
      simp
  · apply List.ext_getElem?
    intro j
    by_cases hj : j < 32
    · obtain ⟨n, h1, _, _⟩ := hc j hj
      rw [List.getElem?_map, List.getElem?_map, h1]
      rfl
    · rw [List.getElem?_eq_none (by omega), List.getElem?_eq_none (by simp; omega)]
  · have hb : ∀ (ys : List (DataW H × List MemPlace)), (∀ y ∈ ys, ∃ n : Int, y = (.lit (.int .u8 n), [])) → Rows.uptoBulkAll (ys.map (·.1)) = ys.length := by
      intro ys
      induction ys with
      | nil => intro _; rfl
      | cons y ys ih =>
        intro hy
        obtain ⟨n, rfl⟩ := hy y (by simp)
        simp only [List.map_cons, Rows.uptoBulkAll, Rows.uptoBulk, List.length_cons, ih (fun z hz => hy z (by simp [hz]))]
        omega
    simp only [Rows.uptoBulk]
    rw [hb xs (fun y hy => ?_), hn]
    obtain ⟨i, h1, h2⟩ := List.getElem_of_mem hy
    obtain ⟨n, _, _, h3⟩ := hc i (by omega)
    rw [List.getElem?_eq_getElem h1, h2] at h3
    exact ⟨n, by simpa using h3⟩
  · simp only [List.flatMap_eq_nil_iff]
    intro y hy
    obtain ⟨i, h1, h2⟩ := List.getElem_of_mem hy
    obtain ⟨n, _, _, h3⟩ := hc i (by omega)
    rw [List.getElem?_eq_getElem h1, h2] at h3
    simp only [Option.some.injEq] at h3
    rw [h3]

/-- Digests that a slice reads as. -/
def Ds (w : World) (p : Option Addr) (n : Nat) (L : List (List Int)) : Prop :=
  L.length = n ∧ (∀ d ∈ L, dok d) ∧ (n = 0 ∨ ∃ b off, p = some ⟨b, off, none⟩ ∧ ∀ j k, j < n → k < 32 → w.cell? ⟨b, off + (j * 32 + k), none⟩ = some (.int .u8 ((L.getD j []).getD k 0)))
theorem Ds.ok {w : World} {p : Option Addr} {n : Nat} {L : List (List Int)} (h : Ds w p n L) (j : Nat) (hj : j < n) : dok (L.getD j []) := by
  have hl : j < L.length := by rw [h.1]; exact hj
  rw [List.getD_eq_getElem?_getD, List.getElem?_eq_getElem hl]
  exact h.2.1 _ (List.getElem_mem hl)
theorem Ds.later {w w' : World} {p : Option Addr} {n : Nat} {L : List (List Int)} (h : Ds w p n L) (hb : Below w.heap.size w w') : Ds w' p n L := by
  obtain ⟨h1, h2, h3⟩ := h
  refine ⟨h1, h2, ?_⟩
  rcases h3 with h3 | ⟨b, off, hp, hc⟩
  · exact Or.inl h3
  · refine Or.inr ⟨b, off, hp, fun j k hj hk => ?_⟩
    rw [hb.cell (World.block_lt_of_cell? w _ (hc j k hj hk))]
    exact hc j k hj hk
theorem Ds.range {w : World} {b off n : Nat} {L : List (List Int)} (h : Ds w (some ⟨b, off, none⟩) n L) (j : Nat) (hj : j < n) : w.rangeAt b (off + j * 32) ((L.getD j []).map (Value.int .u8)) := by
  have hd := h.ok j hj
  obtain ⟨h1, h2, h3⟩ := h
  rcases h3 with h3 | ⟨b', off', hp, hc⟩
  · omega
  · simp only [Option.some.injEq, Addr.mk.injEq, and_true] at hp
    obtain ⟨rfl, rfl⟩ := hp
    intro k v hv
    rw [List.getElem?_map] at hv
    obtain ⟨x, hx, rfl⟩ := Option.map_eq_some_iff.1 hv
    have hk : k < 32 := by
      have := (List.getElem?_eq_some_iff.1 hx).1
      rw [hd.1] at this
      exact this
    rw [Nat.add_assoc, hc j k hj hk, List.getD_eq_getElem?_getD, hx]
    rfl
/-- l[j], loaded. -/
theorem Ds.load {w : World} {b off n : Nat} {L : List (List Int)} (h : Ds w (some ⟨b, off, none⟩) n L) (j : Nat) (hj : j < n) : (Instr.loadAt 29 (.pointer (some ⟨b, off + j * 32, none⟩))).run Try.prog w = .ok (.agg (bcs (L.getD j []))) w :=
  run_loadAt_mid w b (off + j * 32) 29 _ _ (h.range j hj) Try.underlying29 rfl (by rw [List.length_map, (h.ok j hj).1]; exact size32)
theorem Yw.bs {w : World} {b : Nat} {t : TypeId} {l : List Int} (h : Yw w b t l) (hb : ∀ j, 0 ≤ l.getD j 0 ∧ l.getD j 0 < 256) (n : Nat) (hn : l.length = n) : Bs w (some ⟨b, 0, none⟩) n l :=
  ⟨hn, hb, Or.inr ⟨b, 0, rfl, fun j hj => by rw [Nat.zero_add]; exact h.cell j (by omega)⟩⟩
theorem Yw.load {w : World} {b : Nat} {l : List Int} (h : Yw w b 29 l) (hl : l.length = 32) : (Instr.loadAt 29 (.pointer (some ⟨b, 0, none⟩))).run Try.prog w = .ok (.agg (bcs l)) w := by
  have hc : w.rangeAt b 0 (l.map (Value.int .u8)) := by
    intro k v hv
    rw [List.getElem?_map] at hv
    obtain ⟨x, hx, rfl⟩ := Option.map_eq_some_iff.1 hv
    have hk := (List.getElem?_eq_some_iff.1 hx).1
    rw [Nat.zero_add, h.cell k hk, List.getD_eq_getElem?_getD, hx]
    rfl
  exact run_loadAt_mid w b 0 29 _ _ hc Try.underlying29 rfl (by rw [List.length_map, hl]; exact size32)

/-- A whole value loaded in a region that draws its order and only reads. -/
theorem quiet_load {P : Program} {o : Oper} {a : Act} {C : World → Prop} {K : Act → Prop} (ty : TypeId) (x : Operand) (ho : o.op = .load ty x) (q : Value) (hx : a.eval x = q) (v : Value)
    (hr : ∀ w, C w → (Instr.loadAt ty q).run P w = .ok v w) (hk : K (a.put o.dst v)) : o.quiet P a C K := by
  refine ⟨v, fun w hw => ?_, hk⟩
  unfold Oper.quietAt
  simp [execOp, ho, hx, hr w hw, Result.andThen, Oper.quietUpon]
theorem quiet_want {P : Program} {ops : Array Oper} {C : World → Prop} {Q : Act → Prop} {a : Act} {o : Oper} {rest : List Oper} (hg : o.guard = none) (h : ∀ K : Act → Prop, (∀ a, wpQuiet P ops C Q rest a → K a) → o.quiet P a C K) : wpQuiet P ops C Q (o :: rest) a :=
  wpQuiet_step fun K hK => by rw [if_pos (by simp [Region.wanted, hg])]; exact h K hK
/-- d[k] of a digest that is a value. -/
theorem run_index_dig (l : List Int) (hl : l.length = 32) (k : Nat) (hk : k < 32) (W : World) : (Instr.index 29 (.agg (bcs l)) (.int .i64 (k : Int))).run Try.prog W = .ok (.int .u8 (l.getD k 0)) W := by
  have h1 : (0 : Int) ≤ (k : Int) ∧ (k : Int) < ((32 : Nat) : Int) := by omega
  have hb : k < (bcs l).size := by rw [bcs_size, hl]; exact hk
  have hg : (bcs l)[k]? = some (.int .u8 (l.getD k 0)) := by
    have : k < l.length := by omega
    simp [bcs, this, List.getD_eq_getElem?_getD]
  obtain ⟨i8, hi8, hs8⟩ := Option.map_eq_some_iff.1 size8
  simp [Instr.index, asIntOf, run_underlying Try.underlying29, h1, hk, part, sizeOf, typeInfo, hi8, hs8, hg, go_sem]
end Go.Proofs.Ytieednadbcghjaa

namespace Go.Proofs.Ytieednadbcghjaa
set_option linter.unusedVariables false

def lvS : List Int := 1 :: List.replicate 31 0
theorem lvS_ok : dok lvS := ⟨rfl, fun j => by
  by_cases hj : j < 32
  · have : ∀ j : Fin 32, 0 ≤ lvS.getD j.val 0 ∧ lvS.getD j.val 0 < 256 := by decide
    exact this ⟨j, hj⟩
  · rw [List.getD_eq_getElem?_getD, List.getElem?_eq_none (by show 32 ≤ j; omega)]
    simp⟩
end Go.Proofs.Ytieednadbcghjaa

namespace Go.Proofs.Ytieednadbcghjaa
set_option linter.unusedVariables false
open Go.RowKit Go.Lib

set_option maxRecDepth 100000 in
theorem rsame_any (p q : Option Addr) (n m cap cap' : Nat) (L M : List (List Int)) (w : World) (h : Ds w p n L) (h' : Ds w q m M) (hn : n ≤ maxLen) (hm : m ≤ maxLen) :
    Calls Try.prog 20 #[.slice p n cap, .slice q m cap'] w fun e w' => e = .returned (.bool (decide (L = M))) ∧ Below w.heap.size w w' := by
  have H := Lib.hid h
  have H' := Lib.hid h'
  have HB0 : Hid (Below w.heap.size w w) := Lib.hid (Below.refl _ _)
  unfold maxLen at hn hm
  clear h h'
  by_cases hnm : n = m
  · subst hnm
    have e1 : (((n : Nat) : Int) != (n : Int)) = false := by simp
    go_enter Try.func20, Try.ntmps20
    go_wp2
    go_loopw [5] (fun i wr => ∃ k : Nat, k ≤ n ∧ i = .int .i64 (k : Int) ∧ Hid (L.take k = M.take k) ∧ Hid (Below w.heap.size w wr)) (fun i _ => n - (intOf i).toNat)
    case atStart => exact ⟨0, by omega, rfl, Lib.hid (by simp), HB0⟩
    case round =>
      obtain ⟨k, hk, rfl, ht, hb⟩ := hrel
      by_cases hlt : k < n
      · have hds := H.out.later hb.out
        have hds' := H'.out.later hb.out
        have hok := hds.ok k hlt
        have hok' := hds'.ok k hlt
        have hpp : ∃ b off, p = some ⟨b, off, none⟩ := by
          rcases hds.2.2 with h0 | ⟨b, off, hp, _⟩
          · omega
          · exact ⟨b, off, hp⟩
        have hqq : ∃ b off, q = some ⟨b, off, none⟩ := by
          rcases hds'.2.2 with h0 | ⟨b, off, hp, _⟩
          · omega
          · exact ⟨b, off, hp⟩
        obtain ⟨b, off, rfl⟩ := hpp
        obtain ⟨b', off', rfl⟩ := hqq
        have HL1 : Hid (∀ W, (∃ m, W = wr.drewN m) → (Instr.loadAt 29 (.pointer (some ⟨b, off + k * 32, none⟩))).run Try.prog W = .ok (.agg (bcs (L.getD k []))) W) := Lib.hid (by rintro W ⟨m, rfl⟩; exact (hds.later (below_drewN (Below.refl _ _) _)).load k hlt)
        have HL2 : Hid (∀ W, (∃ m, W = wr.drewN m) → (Instr.loadAt 29 (.pointer (some ⟨b', off' + k * 32, none⟩))).run Try.prog W = .ok (.agg (bcs (M.getD k []))) W) := Lib.hid (by rintro W ⟨m, rfl⟩; exact (hds'.later (below_drewN (Below.refl _ _) _)).load k hlt)
        have heq := fun W => digest_eq (L.getD k []) (M.getD k []) hok hok' W
        obtain ⟨x, hx⟩ : ∃ x, L.getD k [] = x := ⟨_, rfl⟩
        obtain ⟨y, hy⟩ : ∃ y, M.getD k [] = y := ⟨_, rfl⟩
        have HX : Hid (x = y → L.take (k + 1) = M.take (k + 1)) := Lib.hid fun h => by
          have h1 : k < L.length := by rw [H.out.1]; exact hlt
          have h2 : k < M.length := by rw [H'.out.1]; exact hlt
          rw [List.take_succ_eq_append_getElem h1, List.take_succ_eq_append_getElem h2, ht.out]
          rw [← hx, ← hy, List.getD_eq_getElem?_getD, List.getD_eq_getElem?_getD, List.getElem?_eq_getElem h1, List.getElem?_eq_getElem h2] at h
          congr 2
        have HN : Hid (x ≠ y → decide (L = M) = false) := Lib.hid fun h => by
          rw [decide_eq_false_iff_not]
          intro e; apply h; rw [← hx, ← hy, e]
        rw [hx] at HL1 heq
        rw [hy] at HL2 heq
        clear hds hok hx hds' hok' hy
        go_wp2
        refine wp_region_quiet_lit (by kernel_rfl) (by kernel_rfl) ?_
        repeat (first | (refine quiet_want rfl fun K hK => quiet_load 29 _ rfl _ rfl _ (HL1).out (hK _ ?_); clear hK K) | (refine quiet_want rfl fun K hK => quiet_load 29 _ rfl _ rfl _ (HL2).out (hK _ ?_); clear hK K) | (quiet_step (fail)))
        refine wpQuiet_nil ?_
        intro _ hw'
        obtain ⟨nq, hw''⟩ := hw'
        subst hw''
        have HB2 : Hid (Below w.heap.size w (wr.drewN nq)) := Lib.hid (below_drewN hb.out _)
        clear hb heq
        generalize wr.drewN nq = wd at *
        go_wp2
        · rename_i h
          have hxd : x ≠ y := by simpa using h
          go_ret
          exact ⟨ret_bool (HN.out hxd).symm, HB2.out⟩
        · rename_i h
          have hxd : x = y := by simpa using h
          exact ⟨⟨k + 1, by omega, by go_num, Lib.hid (HX.out hxd), HB2⟩, by simp [intOf] <;> omega⟩
      · obtain rfl : k = n := by omega
        have HF : Hid (decide (L = M) = true) := Lib.hid (by
          have h := ht.out
          rw [List.take_of_length_le (by rw [H.out.1]; omega), List.take_of_length_le (by rw [H'.out.1]; omega)] at h
          simpa using h)
        go_wp2
        go_ret
        exact ⟨ret_bool HF.out.symm, hb.out⟩
  · have e1 : (((n : Nat) : Int) != (m : Int)) = true := by rw [bne_iff_ne]; omega
    have HF : Hid (decide (L = M) = false) := Lib.hid (by
      rw [decide_eq_false_iff_not]
      intro e; apply hnm; rw [← H.out.1, ← H'.out.1, e])
    go_enter Try.func20, Try.ntmps20
    go_wp2
    go_ret
    exact ⟨ret_bool HF.out.symm, HB0.out⟩
end Go.Proofs.Ytieednadbcghjaa
