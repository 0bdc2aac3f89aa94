/- Digests: arrays of 32 bytes, compared as whole values; rows of them in memory; Texts of digests: plain; Plain mathematics of package manifest: lines, texts, and what is read; Layer 17, the program: what its reading comes to, plainly -/
import Derived.Test.YtahjofjblhpndaaDoorMn2
import Derived.Test.YtahjofjblhpndaaDoorMn4
import Derived.ChangeKeysEq
import Derived.OpenShut
set_option linter.unusedSimpArgs false
set_option linter.unusedVariables false
namespace Go.Proofs.YtahjofjblhpndaaDoor
set_option linter.unusedVariables false
open Go.RowKit Go.Lib

def dok (d : List Int) : Prop := d.length = 32 ∧ ∀ j, 0 ≤ d.getD j 0 ∧ d.getD j 0 < 256
def dzero : List Int := List.replicate 32 0
theorem dok_zero : dok dzero := ⟨rfl, bytes_replicate 32⟩

theorem key8 (D : Nat) (x : Int) (h : 0 ≤ x ∧ x < 256) : Tryd.prog.keyLits (D + 1) 5 [.int .u8 x] = some [.int .u8 x] := by
  unfold Program.keyLits
  rw [Tryd.underlying5]
  simp [Lit.wf, IntKind.min, IntKind.max, IntKind.signed, IntKind.bits]
  omega
theorem mapM_keys (P : Program) (D : Nat) (e : TypeId) (f : Nat → List Value) (g : Nat → List Lit) : ∀ is : List Nat, (∀ i ∈ is, P.keyLits D e (f i) = some (g i)) → is.mapM (fun i => P.keyLits D e (f i)) = some (is.map g)
  | [], _ => rfl
  | i :: is, h => by
    rw [List.mapM_cons, h i (by simp), mapM_keys P D e f g is (fun j hj => h j (by simp [hj]))]
    rfl
theorem info8' : ∃ i, Tryd.prog.info? 5 = some i := info_of_underlying Tryd.underlying5
theorem plain8 : Tryd.prog.plainKey 5 = true := by kernel_rfl
theorem digest_keys (l : List Int) (h : dok l) : (List.range 32).mapM (fun i => Tryd.prog.keyLits 2 5 (((bcs l).toList.drop (i * Tryd.prog.cellsOf 5)).take (Tryd.prog.cellsOf 5))) = some ((List.range 32).map fun i => [.int .u8 (l.getD i 0)]) :=
  mapM_keys Tryd.prog 2 5 (fun i => (((bcs l).toList.drop (i * Tryd.prog.cellsOf 5)).take (Tryd.prog.cellsOf 5))) (fun i => [.int .u8 (l.getD i 0)]) (List.range 32) (fun i hi => by
    have hi' : i < l.length := by rw [h.1]; exact List.mem_range.1 hi
    rw [cells8, Nat.mul_one]
    have e : ((bcs l).toList.drop i).take 1 = [.int .u8 (l.getD i 0)] := by
      simp only [bcs, List.toList_toArray]
      rw [List.drop_eq_getElem_cons (by simpa using hi')]
      simp [List.getD_eq_getElem?_getD, hi']
    rw [e]
    exact key8 1 _ (h.2 i))
theorem flat_one {α : Type} (f : Nat → α) : ∀ is : List Nat, (is.map fun i => [f i]).flatten = is.map f
  | [] => rfl
  | i :: is => by rw [List.map_cons, List.flatten_cons, flat_one f is]; rfl
theorem digest_ext {l m : List Int} (hl : l.length = 32) (hm : m.length = 32) (h : ∀ i, i < 32 → l.getD i 0 = m.getD i 0) : l = m := by
  apply List.ext_getElem (by omega)
  intro i h1 h2
  have := h i (by omega)
  simpa [List.getD_eq_getElem?_getD, h1, h2] using this
theorem digest_eq (l m : List Int) (hl : dok l) (hm : dok m) (W : World) : (Op.equalIn 10000 39 (.agg (bcs l)) (.agg (bcs m))).run Tryd.prog W = .ok (decide (l = m)) W := by
  obtain ⟨i, hi⟩ := info8'
  rw [run_equalIn_array W 9999 (bcs l) (bcs m) Tryd.underlying39 hi]
  obtain ⟨r, hr, hr2⟩ := run_eqItems_plain W 9998 plain8 (bcs l) (bcs m) (List.range 32) _ _ (digest_keys l hl) (digest_keys m hm)
  have hrr : r = decide (l = m) := by
    rw [Bool.eq_iff_iff, hr2, decide_eq_true_iff]
    constructor
    · intro h
      refine digest_ext hl.1 hm.1 fun i hi => ?_
      rw [flat_one, flat_one] at h
      have h1 := congrArg (fun x => x[i]?) h
      simp [hi] at h1
      simpa [List.getD_eq_getElem?_getD] using h1
    · intro h; rw [h]
  rw [hr, hrr]

theorem cells24 : Tryd.prog.cellsOf 39 = 32 := by kernel_rfl
/-- A digest, opened. -/
theorem open_dig {H : Type} {enc : TypeId × Value → H} {W : World} {base : Nat} {sp : Nat → Bool} {held : Bool} {fuel : Nat} {cs : List Value} {x : DataW H × List MemPlace} (h : DataW.trod enc Tryd.prog W base sp held fuel 39 cs = some x) :
    ∃ zs, dok zs ∧ cs = zs.map (Value.int .u8) ∧ Rows.uptoBulk x.1 = 33 ∧ x.2 = [] := by
  obtain ⟨xs, m, rfl, rfl, hl, hn, hi⟩ := DataW.trod_array Tryd.underlying39 h
  rw [cells24] at hl
  have hc : ∀ i, i < 32 → ∃ n : Int, cs[i]? = some (.int .u8 n) ∧ (0 ≤ n ∧ n < 256) ∧ xs[i]? = some (.lit (.int .u8 n), []) := by
    intro i hi32
    have h1 := hi i hi32
    rw [cells8, Nat.mul_one, List.drop_eq_getElem_cons (by omega)] at h1
    simp only [List.take_succ_cons, List.take_zero] at h1
    have hx : xs[i]? = some (xs[i]'(by omega)) := List.getElem?_eq_getElem _
    rw [hx] at h1
    obtain ⟨n, h2, h3, h4⟩ := DataW.trod_int Tryd.underlying5 h1
    refine ⟨n, ?_, ?_, by rw [hx, h3]⟩
    · rw [List.getElem?_eq_getElem (by omega)]
      simpa using h2
    · have := h4
      simp [Lit.wf, IntKind.min, IntKind.max, IntKind.signed, IntKind.bits] at this
      omega
  refine ⟨cs.map intOf, ⟨by simpa using hl, fun j => ?_⟩, ?_, ?_, ?_⟩
  · by_cases hj : j < 32
    · obtain ⟨n, h1, h2, _⟩ := hc j hj
      rw [List.getD_eq_getElem?_getD, List.getElem?_map, h1]
      exact h2
    · rw [List.getD_eq_getElem?_getD, List.getElem?_eq_none (by simp; omega)]
      simp
  · apply List.ext_getElem?
    intro j
    by_cases hj : j < 32
    · obtain ⟨n, h1, _, _⟩ := hc j hj
      rw [List.getElem?_map, List.getElem?_map, h1]
      rfl
    · rw [List.getElem?_eq_none (by omega), List.getElem?_eq_none (by simp; omega)]
  · have hb : ∀ (ys : List (DataW H × List MemPlace)), (∀ y ∈ ys, ∃ n : Int, y = (.lit (.int .u8 n), [])) → Rows.uptoBulkAll (ys.map (·.1)) = ys.length := by
      intro ys
      induction ys with
      | nil => intro _; rfl
      | cons y ys ih =>
        intro hy
        obtain ⟨n, rfl⟩ := hy y (by simp)
        simp only [List.map_cons, Rows.uptoBulkAll, Rows.uptoBulk, List.length_cons, ih (fun z hz => hy z (by simp [hz]))]
        omega
    simp only [Rows.uptoBulk]
    rw [hb xs (fun y hy => ?_), hn]
    obtain ⟨i, h1, h2⟩ := List.getElem_of_mem hy
    obtain ⟨n, _, _, h3⟩ := hc i (by omega)
    rw [List.getElem?_eq_getElem h1, h2] at h3
    exact ⟨n, by simpa using h3⟩
  · simp only [List.flatMap_eq_nil_iff]
    intro y hy
    obtain ⟨i, h1, h2⟩ := List.getElem_of_mem hy
    obtain ⟨n, _, _, h3⟩ := hc i (by omega)
    rw [List.getElem?_eq_getElem h1, h2] at h3
    simp only [Option.some.injEq] at h3
    rw [h3]

/-- Digests that a slice reads as. -/
def Ds (w : World) (p : Option Addr) (n : Nat) (L : List (List Int)) : Prop :=
  L.length = n ∧ (∀ d ∈ L, dok d) ∧ (n = 0 ∨ ∃ b off, p = some ⟨b, off, none⟩ ∧ ∀ j k, j < n → k < 32 → w.cell? ⟨b, off + (j * 32 + k), none⟩ = some (.int .u8 ((L.getD j []).getD k 0)))
theorem Ds.ok {w : World} {p : Option Addr} {n : Nat} {L : List (List Int)} (h : Ds w p n L) (j : Nat) (hj : j < n) : dok (L.getD j []) := by
  have hl : j < L.length := by rw [h.1]; exact hj
  rw [List.getD_eq_getElem?_getD, List.getElem?_eq_getElem hl]
  exact h.2.1 _ (List.getElem_mem hl)
theorem Ds.later {w w' : World} {p : Option Addr} {n : Nat} {L : List (List Int)} (h : Ds w p n L) (hb : Below w.heap.size w w') : Ds w' p n L := by
  obtain ⟨h1, h2, h3⟩ := h
  refine ⟨h1, h2, ?_⟩
  rcases h3 with h3 | ⟨b, off, hp, hc⟩
  · exact Or.inl h3
  · refine Or.inr ⟨b, off, hp, fun j k hj hk => ?_⟩
    rw [hb.cell (World.block_lt_of_cell? w _ (hc j k hj hk))]
    exact hc j k hj hk
theorem Ds.range {w : World} {b off n : Nat} {L : List (List Int)} (h : Ds w (some ⟨b, off, none⟩) n L) (j : Nat) (hj : j < n) : w.rangeAt b (off + j * 32) ((L.getD j []).map (Value.int .u8)) := by
  have hd := h.ok j hj
  obtain ⟨h1, h2, h3⟩ := h
  rcases h3 with h3 | ⟨b', off', hp, hc⟩
  · omega
  · simp only [Option.some.injEq, Addr.mk.injEq, and_true] at hp
    obtain ⟨rfl, rfl⟩ := hp
    intro k v hv
    rw [List.getElem?_map] at hv
    obtain ⟨x, hx, rfl⟩ := Option.map_eq_some_iff.1 hv
    have hk : k < 32 := by
      have := (List.getElem?_eq_some_iff.1 hx).1
      rw [hd.1] at this
      exact this
    rw [Nat.add_assoc, hc j k hj hk, List.getD_eq_getElem?_getD, hx]
    rfl
/-- l[j], loaded. -/
theorem Ds.load {w : World} {b off n : Nat} {L : List (List Int)} (h : Ds w (some ⟨b, off, none⟩) n L) (j : Nat) (hj : j < n) : (Instr.loadAt 39 (.pointer (some ⟨b, off + j * 32, none⟩))).run Tryd.prog w = .ok (.agg (bcs (L.getD j []))) w :=
  run_loadAt_mid w b (off + j * 32) 39 _ _ (h.range j hj) Tryd.underlying39 rfl (by rw [List.length_map, (h.ok j hj).1]; exact size32)
theorem Yw.bs {w : World} {b : Nat} {t : TypeId} {l : List Int} (h : Yw w b t l) (hb : ∀ j, 0 ≤ l.getD j 0 ∧ l.getD j 0 < 256) (n : Nat) (hn : l.length = n) : Bs w (some ⟨b, 0, none⟩) n l :=
  ⟨hn, hb, Or.inr ⟨b, 0, rfl, fun j hj => by rw [Nat.zero_add]; exact h.cell j (by omega)⟩⟩
theorem Yw.load {w : World} {b : Nat} {l : List Int} (h : Yw w b 39 l) (hl : l.length = 32) : (Instr.loadAt 39 (.pointer (some ⟨b, 0, none⟩))).run Tryd.prog w = .ok (.agg (bcs l)) w := by
  have hc : w.rangeAt b 0 (l.map (Value.int .u8)) := by
    intro k v hv
    rw [List.getElem?_map] at hv
    obtain ⟨x, hx, rfl⟩ := Option.map_eq_some_iff.1 hv
    have hk := (List.getElem?_eq_some_iff.1 hx).1
    rw [Nat.zero_add, h.cell k hk, List.getD_eq_getElem?_getD, hx]
    rfl
  exact run_loadAt_mid w b 0 39 _ _ hc Tryd.underlying39 rfl (by rw [List.length_map, hl]; exact size32)

/-- A whole value loaded in a region that draws its order and only reads. -/
theorem quiet_load {P : Program} {o : Oper} {a : Act} {C : World → Prop} {K : Act → Prop} (ty : TypeId) (x : Operand) (ho : o.op = .load ty x) (q : Value) (hx : a.eval x = q) (v : Value)
    (hr : ∀ w, C w → (Instr.loadAt ty q).run P w = .ok v w) (hk : K (a.put o.dst v)) : o.quiet P a C K := by
  refine ⟨v, fun w hw => ?_, hk⟩
  unfold Oper.quietAt
  simp [execOp, ho, hx, hr w hw, Result.andThen, Oper.quietUpon]
theorem quiet_want {P : Program} {ops : Array Oper} {C : World → Prop} {Q : Act → Prop} {a : Act} {o : Oper} {rest : List Oper} (hg : o.guard = none) (h : ∀ K : Act → Prop, (∀ a, wpQuiet P ops C Q rest a → K a) → o.quiet P a C K) : wpQuiet P ops C Q (o :: rest) a :=
  wpQuiet_step fun K hK => by rw [if_pos (by simp [Region.wanted, hg])]; exact h K hK
/-- d[k] of a digest that is a value. -/
theorem run_index_dig (l : List Int) (hl : l.length = 32) (k : Nat) (hk : k < 32) (W : World) : (Instr.index 39 (.agg (bcs l)) (.int .i64 (k : Int))).run Tryd.prog W = .ok (.int .u8 (l.getD k 0)) W := by
  have h1 : (0 : Int) ≤ (k : Int) ∧ (k : Int) < ((32 : Nat) : Int) := by omega
  have hb : k < (bcs l).size := by rw [bcs_size, hl]; exact hk
  have hg : (bcs l)[k]? = some (.int .u8 (l.getD k 0)) := by
    have : k < l.length := by omega
    simp [bcs, this, List.getD_eq_getElem?_getD]
  obtain ⟨i8, hi8, hs8⟩ := Option.map_eq_some_iff.1 size8
  simp [Instr.index, asIntOf, run_underlying Tryd.underlying39, h1, hk, part, sizeOf, typeInfo, hi8, hs8, hg, go_sem]
end Go.Proofs.YtahjofjblhpndaaDoor

namespace Go.Proofs.YtahjofjblhpndaaDoor
set_option linter.unusedVariables false
open Go.RowKit Go.Lib

def shaPre : List Int := [115, 104, 97, 50, 53, 54, 58]
/-- a digest's text -/
def dtext (d : List Int) : List Int := shaPre ++ hexs d

/-- what a text tells -/
def drd (cs : List Int) : Option (List Int) := if cs.length = 71 ∧ cs.take 7 = shaPre then hrd (cs.drop 7) else none
def dans (cs : List Int) : List Int := (drd cs).getD dzero
def derr (cs : List Int) : Int := if (drd cs).isSome then 0 else 3
theorem drd_none {cs : List Int} (h : drd cs = none) : dans cs = dzero ∧ derr cs = 3 := by simp [dans, derr, h]
theorem drd_some {cs ys : List Int} (h : drd cs = some ys) : dans cs = ys ∧ derr cs = 0 := by simp [dans, derr, h]
def cpK (ys : List Int) (k : Nat) : List Int := ys.take k ++ List.replicate (32 - k) 0
theorem cpK_length {ys : List Int} (h : ys.length = 32) (k : Nat) (hk : k ≤ 32) : (cpK ys k).length = 32 := by simp [cpK]; omega
theorem cpK_zero (ys : List Int) : cpK ys 0 = dzero := rfl
theorem cpK_all {ys : List Int} (h : ys.length = 32) : cpK ys 32 = ys := by simp [cpK, List.take_of_length_le (show ys.length ≤ 32 by omega)]
theorem cpK_get {ys : List Int} (h : ys.length = 32) (k i : Nat) (hk : k ≤ 32) : (cpK ys k)[i]? = if i < k then ys[i]? else if i < 32 then some 0 else none := by
  have hm : min k 32 = k := by omega
  simp only [cpK, List.getElem?_append, List.length_take, List.getElem?_take, List.getElem?_replicate, h, hm]
  by_cases h1 : i < k
  · simp [h1]
  · rw [if_neg h1, if_neg h1]
    by_cases h2 : i < 32
    · rw [if_pos (by omega), if_pos h2]
    · rw [if_neg (by omega), if_neg h2]
theorem cpK_set {ys : List Int} (h : ys.length = 32) (k : Nat) (hk : k < 32) : (cpK ys k).set k (ys.getD k 0) = cpK ys (k + 1) := by
  apply List.ext_getElem?
  intro i
  rw [List.getElem?_set, cpK_length h k (by omega), cpK_get h k i (by omega), cpK_get h (k + 1) i (by omega)]
  by_cases e : k = i
  · subst e
    rw [if_pos rfl, if_pos hk, if_pos (by omega), List.getD_eq_getElem?_getD, List.getElem?_eq_getElem (by omega)]
    rfl
  · rw [if_neg e]
    by_cases h1 : i < k
    · rw [if_pos h1, if_pos (by omega)]
    · rw [if_neg h1, if_neg (show ¬ i < k + 1 by omega)]
theorem zero_cells : bcs dzero = #[.int .u8 0, .int .u8 0, .int .u8 0, .int .u8 0, .int .u8 0, .int .u8 0, .int .u8 0, .int .u8 0, .int .u8 0, .int .u8 0, .int .u8 0, .int .u8 0, .int .u8 0, .int .u8 0, .int .u8 0, .int .u8 0, .int .u8 0, .int .u8 0, .int .u8 0, .int .u8 0, .int .u8 0, .int .u8 0, .int .u8 0, .int .u8 0, .int .u8 0, .int .u8 0, .int .u8 0, .int .u8 0, .int .u8 0, .int .u8 0, .int .u8 0, .int .u8 0] := rfl
theorem dzero_size : (Tryd.prog.info? 39).map (·.size) = some (bcs dzero).size := size32
theorem hrd_len {cs ys : List Int} (h : hrd cs = some ys) : ys.length = cs.length / 2 ∧ ∀ j, 0 ≤ ys.getD j 0 ∧ ys.getD j 0 < 256 := by
  unfold hrd at h
  split at h
  · rename_i hg
    simp only [Option.some.injEq] at h
    subst h
    exact ⟨by simp [hread], hread_byte hg.2 (Nat.le_refl _)⟩
  · cases h
theorem drd_ok {cs ys : List Int} (h : drd cs = some ys) : dok ys := by
  unfold drd at h
  split at h
  · rename_i hg
    obtain ⟨h1, h2⟩ := hrd_len h
    exact ⟨by rw [h1, List.length_drop, hg.1], h2⟩
  · cases h
theorem dans_ok (cs : List Int) : dok (dans cs) := by
  unfold dans
  cases h : drd cs with
  | none => exact dok_zero
  | some ys => exact drd_ok h

theorem drd_dtext {d : List Int} (h : dok d) : drd (dtext d) = some d := by
  have hl : (dtext d).length = 71 := by rw [dtext, List.length_append, hexs_length, h.1]; rfl
  have ht : (dtext d).take 7 = shaPre := by rw [dtext, List.take_append_of_le_length (by decide)]; rfl
  have hd : (dtext d).drop 7 = hexs d := by rw [dtext, List.drop_append_of_le_length (by decide)]; rfl
  rw [drd, if_pos ⟨hl, ht⟩, hd, hrd_hexs h.2]
theorem dtext_drd {cs y : List Int} (h : drd cs = some y) : dtext y = cs := by
  unfold drd at h
  split at h
  · rename_i hg
    have := hexs_hrd h
    rw [dtext, this, ← hg.2, List.take_append_drop]
  · cases h
theorem dtext_byte {d : List Int} (h : dok d) : ∀ j, 0 ≤ (dtext d).getD j 0 ∧ (dtext d).getD j 0 < 256 := by
  refine bytes_append (fun j => ?_) (hexs_byte h.2)
  by_cases hj : j < 7
  · have : ∀ j : Fin 7, 0 ≤ shaPre.getD j.val 0 ∧ shaPre.getD j.val 0 < 256 := by decide
    exact this ⟨j, hj⟩
  · rw [List.getD_eq_getElem?_getD, List.getElem?_eq_none (by simp [shaPre]; omega)]
    simp
theorem dtext_size {d : List Int} (h : dok d) : (strOfNums (dtext d)).size = 71 := by
  have h1 : (strOfNums (dtext d)).data.toList.length = 71 := by rw [strOfNums_data, List.length_map, dtext, List.length_append, hexs_length, h.1]; rfl
  simpa using h1
end Go.Proofs.YtahjofjblhpndaaDoor

namespace Go.Proofs.YtahjofjblhpndaaDoor
set_option linter.unusedVariables false

/-- a reference -/
structure Rf where
  m : Bool
  dg : List Int
  z : Int
deriving DecidableEq
/-- decimal figures -/
def dgs (n : Nat) : List Int := if h : n < 10 then [(n : Int) + 48] else dgs (n / 10) ++ [((n % 10 : Nat) : Int) + 48]
theorem dgs_small {n : Nat} (h : n < 10) : dgs n = [(n : Int) + 48] := by rw [dgs, dif_pos h]
theorem dgs_great {n : Nat} (h : ¬ n < 10) : dgs n = dgs (n / 10) ++ [((n % 10 : Nat) : Int) + 48] := by rw [dgs, dif_neg h]
theorem dgs_fig (n : Nat) : ∀ x ∈ dgs n, 48 ≤ x ∧ x ≤ 57 := by
  induction n using dgs.induct with
  | case1 n h => rw [dgs_small h]; intro x hx; rw [List.mem_singleton] at hx; omega
  | case2 n h ih =>
    rw [dgs_great h]
    intro x hx
    rcases List.mem_append.1 hx with h1 | h1
    · exact ih x h1
    · rw [List.mem_singleton] at h1; omega
theorem dgs_length : ∀ (k n : Nat), n < 10 ^ (k + 1) → 1 ≤ (dgs n).length ∧ (dgs n).length ≤ k + 1
  | 0, n, h => by rw [dgs_small (by simpa using h)]; simp
  | k + 1, n, h => by
    by_cases h1 : n < 10
    · rw [dgs_small h1]; simp
    · have h2 := dgs_length k (n / 10) (by rw [Nat.pow_succ] at h; omega)
      rw [dgs_great h1, List.length_append, List.length_singleton]
      omega
/-- a number, figure by figure -/
def accN (a : Int) (cs : List Int) : Int := cs.foldl (fun a c => a * 10 + c - 48) a
theorem accN_append (a : Int) (cs es : List Int) : accN a (cs ++ es) = accN (accN a cs) es := List.foldl_append ..
theorem accN_dgs (n : Nat) : accN 0 (dgs n) = n := by
  induction n using dgs.induct with
  | case1 n h => rw [dgs_small h]; simp [accN]
  | case2 n h ih =>
    rw [dgs_great h, accN_append, ih]
    simp only [accN, List.foldl_cons, List.foldl_nil]
    omega
def manPre : List Int := [109, 97, 110, 105, 102, 101, 115, 116, 32]
def bloPre : List Int := [98, 108, 111, 98, 32]
def firstL : List Int := [115, 116, 105, 108, 108, 97, 103, 101, 32, 49]
def lineN (r : Rf) : List Int := if r.m then manPre ++ dtext r.dg else bloPre ++ (dtext r.dg ++ 32 :: dgs r.z.toNat)
def sizeOk (r : Rf) : Bool := r.m || decide (0 ≤ r.z ∧ r.z ≤ 999999999)
/-- what is wrong with the first that has a fault; those ahead of it -/
def tGo : List Rf → List Rf → Int
  | _, [] => 0
  | pre, r :: l => if sizeOk r = false then 20 else if pre.any (fun q => decide (q.dg = r.dg)) then 7 else tGo (pre ++ [r]) l
def tE (l : List Rf) : Int := if l.length > 64 then 8 else tGo [] l
def bodyN (l : List Rf) : List Int := l.flatMap fun r => lineN r ++ [10]
def tB (l : List Rf) : List Int := if tE l = 0 then firstL ++ (10 :: bodyN l) else []
/-- a line's reference -/
def rdL (cs : List Int) : Option Rf :=
  if cs.take 9 = manPre then
    if cs.length < 80 then none else match drd ((cs.drop 9).take 71) with
      | none => none
      | some d => if lineN ⟨true, d, 0⟩ = cs then some ⟨true, d, 0⟩ else none
  else if cs.length < 76 then none else match drd ((cs.drop 5).take 71) with
      | none => none
      | some d => if 0 ≤ accN 0 ((cs.drop 77).take 10) ∧ accN 0 ((cs.drop 77).take 10) ≤ 999999999 ∧ lineN ⟨false, d, accN 0 ((cs.drop 77).take 10)⟩ = cs then some ⟨false, d, accN 0 ((cs.drop 77).take 10)⟩ else none
theorem rdL_line {cs : List Int} {r : Rf} (h : rdL cs = some r) : lineN r = cs ∧ sizeOk r = true := by
  unfold rdL at h
  split at h
  · split at h
    · cases h
    · split at h
      · cases h
      · split at h
        · rename_i h1
          cases h
          exact ⟨h1, rfl⟩
        · cases h
  · split at h
    · cases h
    · split at h
      · cases h
      · split at h
        · rename_i h1
          cases h
          exact ⟨h1.2.2, decide_eq_true ⟨h1.1, h1.2.1⟩⟩
        · cases h
theorem rdL_dg {cs : List Int} {r : Rf} (h : rdL cs = some r) : dok r.dg ∧ (r.m = true → r.z = 0) := by
  unfold rdL at h
  split at h
  · split at h
    · cases h
    · split at h
      · cases h
      · rename_i d h0
        split at h
        · cases h
          exact ⟨drd_ok h0, fun _ => rfl⟩
        · cases h
  · split at h
    · cases h
    · split at h
      · cases h
      · rename_i d h0
        split at h
        · cases h
          exact ⟨drd_ok h0, fun h1 => by cases h1⟩
        · cases h
def Rf.norm (r : Rf) : Rf := if r.m then ⟨true, r.dg, 0⟩ else r
theorem rdL_ok {cs : List Int} {r : Rf} (h : rdL cs = some r) : dok r.dg ∧ r.norm = r := by
  obtain ⟨h1, h2⟩ := rdL_dg h
  refine ⟨h1, ?_⟩
  unfold Rf.norm
  split
  · rename_i hm
    obtain ⟨m, d, z⟩ := r
    have h3 := h2 hm
    simp only at hm h3
    rw [hm, h3]
  · rfl
theorem lineN_norm (r : Rf) : lineN r.norm = lineN r := by
  unfold Rf.norm
  split
  · rename_i h
    unfold lineN
    rw [if_pos h, if_pos rfl]
  · rfl
theorem line_rdL {r : Rf} (hd : dok r.dg) (hz : sizeOk r = true) : rdL (lineN r) = some r.norm := by
  have hl : (dtext r.dg).length = 71 := by rw [dtext, List.length_append, hexs_length, hd.1]; rfl
  have hr := drd_dtext hd
  unfold rdL Rf.norm
  by_cases hm : r.m = true
  · have e : lineN r = manPre ++ dtext r.dg := by unfold lineN; rw [if_pos hm]
    have h1 : (lineN r).take 9 = manPre := by rw [e, show (9 : Nat) = manPre.length from rfl, List.take_left]
    have h2 : ((lineN r).drop 9).take 71 = dtext r.dg := by rw [e, show (9 : Nat) = manPre.length from rfl, List.drop_left, List.take_of_length_le (by omega)]
    have h3 : ¬ (lineN r).length < 80 := by rw [e, List.length_append, hl]; decide
    have h4 : lineN ⟨true, r.dg, 0⟩ = lineN r := by rw [e]; rfl
    rw [if_pos h1, if_neg h3, h2, hr, if_pos hm]
    simp only [h4, if_true]
  · have hm' : r.m = false := by simpa using hm
    have e : lineN r = bloPre ++ (dtext r.dg ++ 32 :: dgs r.z.toNat) := by unfold lineN; rw [if_neg hm]
    unfold sizeOk at hz
    rw [hm', Bool.false_or] at hz
    obtain ⟨z0, z1⟩ := of_decide_eq_true hz
    have hlen := dgs_length 8 r.z.toNat (by omega)
    have h1 : ¬ (lineN r).take 9 = manPre := by
      rw [e]
      intro h
      have h' := congrArg List.head? h
      simp [bloPre, manPre] at h'
    have h2 : ((lineN r).drop 5).take 71 = dtext r.dg := by rw [e, show (5 : Nat) = bloPre.length from rfl, List.drop_left, ← hl, List.take_left]
    have h3 : ¬ (lineN r).length < 76 := by rw [e, List.length_append, List.length_append, hl]; simp [bloPre]; omega
    have h5 : (lineN r).drop 77 = dgs r.z.toNat := by
      rw [e, show bloPre ++ (dtext r.dg ++ 32 :: dgs r.z.toNat) = (bloPre ++ (dtext r.dg ++ [32])) ++ dgs r.z.toNat by simp, show (77 : Nat) = (bloPre ++ (dtext r.dg ++ [32])).length by rw [List.length_append, List.length_append, hl]; rfl, List.drop_left]
    have h6 : accN 0 (((lineN r).drop 77).take 10) = r.z := by
      rw [h5, List.take_of_length_le (by omega), accN_dgs]
      omega
    have h7 : (⟨false, r.dg, r.z⟩ : Rf) = r := by
      obtain ⟨m, d, z⟩ := r
      simp only at hm'
      rw [hm']
    rw [if_neg h1, if_neg h3, h2, hr, if_neg hm]
    simp only [h6, h7]
    rw [if_pos ⟨z0, z1, trivial⟩]
/-- the reading: the rest, whether the first line is over, what was read -/
def cutL : List Int → Option (List Int × List Int)
  | [] => none
  | x :: l => if x = 10 then some ([], l) else (cutL l).map fun p => (x :: p.1, p.2)
theorem cutL_length : ∀ {zs a b : List Int}, cutL zs = some (a, b) → zs = a ++ 10 :: b
  | [], a, b, h => by cases h
  | x :: l, a, b, h => by
    unfold cutL at h
    split at h
    · rename_i h1
      cases h
      subst h1
      rfl
    · cases hc : cutL l with
      | none => rw [hc] at h; cases h
      | some p =>
        rw [hc] at h
        simp only [Option.map_some, Option.some.injEq, Prod.mk.injEq] at h
        obtain ⟨rfl, rfl⟩ := h
        have h2 := cutL_length (a := p.1) (b := p.2) (by rw [hc])
        rw [h2]
        rfl
theorem cutL_at : ∀ (a b : List Int), (10 : Int) ∉ a → cutL (a ++ 10 :: b) = some (a, b)
  | [], b, _ => by simp [cutL]
  | x :: a, b, h => by
    have h1 : x ≠ 10 := fun e => h (by rw [e]; exact List.mem_cons_self ..)
    have h2 := cutL_at a b fun h3 => h (List.mem_cons_of_mem _ h3)
    show cutL (x :: (a ++ 10 :: b)) = _
    unfold cutL
    rw [if_neg h1, h2]
    rfl
theorem cutL_none : ∀ {zs : List Int}, (10 : Int) ∉ zs → cutL zs = none
  | [], _ => rfl
  | x :: l, h => by
    have h1 : x ≠ 10 := fun e => h (by rw [e]; exact List.mem_cons_self ..)
    unfold cutL
    rw [if_neg h1, cutL_none fun h3 => h (List.mem_cons_of_mem _ h3)]
    rfl
theorem cutL_in : ∀ {zs a b : List Int}, cutL zs = some (a, b) → (10 : Int) ∉ a
  | [], a, b, h => by cases h
  | x :: l, a, b, h => by
    unfold cutL at h
    split at h
    · cases h
      exact List.not_mem_nil
    · rename_i h1
      cases hc : cutL l with
      | none => rw [hc] at h; cases h
      | some p =>
        rw [hc] at h
        simp only [Option.map_some, Option.some.injEq, Prod.mk.injEq] at h
        obtain ⟨rfl, rfl⟩ := h
        have h2 := cutL_in (a := p.1) (b := p.2) (by rw [hc])
        intro h3
        rcases List.mem_cons.1 h3 with h4 | h4
        · exact h1 h4.symm
        · exact h2 h4
structure Rd3 where
  l : List Rf
  err : Int
def rdNo (e : Int) : Rd3 := ⟨[], e⟩
def twice (l : List Rf) (r : Rf) : Bool := l.any fun q => decide (q.dg = r.dg)
def rdGo : Nat → List Int → Bool → List Rf → Rd3
  | 0, _, _, _ => rdNo 3
  | f + 1, zs, st, l => match cutL zs with
    | none => if st = true ∧ zs = [] then ⟨l, 0⟩ else rdNo 3
    | some (a, b) => if st = false then (if a = firstL then rdGo f b true [] else rdNo 3) else match rdL a with
      | none => rdNo 3
      | some r => if l.length = 64 then rdNo 8 else if twice l r then rdNo 7 else rdGo f b true (l ++ [r])
def rdF (zs : List Int) : Rd3 := rdGo (zs.length + 1) zs false []
theorem rdGo_fuel : ∀ (f g : Nat) (zs : List Int) (st : Bool) (l : List Rf), zs.length < f → zs.length < g → rdGo f zs st l = rdGo g zs st l
  | 0, _, _, _, _, h, _ => by omega
  | _, 0, _, _, _, _, h => by omega
  | f + 1, g + 1, zs, st, l, hf, hg => by
    unfold rdGo
    cases hc : cutL zs with
    | none => rfl
    | some p =>
      obtain ⟨a, b⟩ := p
      have h1 := cutL_length hc
      have h2 : b.length < zs.length := by rw [h1, List.length_append, List.length_cons]; omega
      dsimp only
      split
      · split
        · exact rdGo_fuel f g _ _ _ (by omega) (by omega)
        · rfl
      · split
        · rfl
        · split
          · rfl
          · split
            · rfl
            · exact rdGo_fuel f g _ _ _ (by omega) (by omega)
/-- from a place on -/
def rdR (zs : List Int) (st : Bool) (l : List Rf) : Rd3 := rdGo (zs.length + 1) zs st l
theorem rdR_none {zs : List Int} (h : (10 : Int) ∉ zs) (st : Bool) (l : List Rf) : rdR zs st l = if st = true ∧ zs = [] then ⟨l, 0⟩ else rdNo 3 := by
  unfold rdR rdGo
  rw [cutL_none h]
theorem rdR_step {a : List Int} (b : List Int) (h : (10 : Int) ∉ a) (st : Bool) (l : List Rf) : rdR (a ++ 10 :: b) st l =
    if st = false then (if a = firstL then rdR b true [] else rdNo 3) else match rdL a with
      | none => rdNo 3
      | some r => if l.length = 64 then rdNo 8 else if twice l r then rdNo 7 else rdR b true (l ++ [r]) := by
  have e : rdR (a ++ 10 :: b) st l = rdGo ((a ++ 10 :: b).length + 1) (a ++ 10 :: b) st l := rfl
  have hb : b.length < (a ++ 10 :: b).length := by rw [List.length_append, List.length_cons]; omega
  rw [e]
  unfold rdGo
  rw [cutL_at a b h]
  dsimp only
  split
  · split
    · exact rdGo_fuel _ _ _ _ _ hb (by omega)
    · rfl
  · split
    · rfl
    · split
      · rfl
      · split
        · rfl
        · exact rdGo_fuel _ _ _ _ _ hb (by omega)
theorem hexs_mem {zs : List Int} (h : ∀ x ∈ zs, 0 ≤ x ∧ x < 256) : ∀ x ∈ hexs zs, 48 ≤ x := by
  intro x hx
  unfold hexs at hx
  rw [List.mem_flatMap] at hx
  obtain ⟨z, hz, hx⟩ := hx
  have hb := h z hz
  have g : ∀ n : Int, 0 ≤ n → 48 ≤ hfig n := fun n hn => by unfold hfig; split <;> omega
  rcases List.mem_cons.1 hx with rfl | hx
  · exact g _ (by omega)
  · rw [List.mem_singleton] at hx
    subst hx
    exact g _ (by omega)
theorem dok_mem {d : List Int} (h : dok d) : ∀ x ∈ d, 0 ≤ x ∧ x < 256 := fun x hx => by
  obtain ⟨j, hj, rfl⟩ := List.mem_iff_getElem.1 hx
  have h1 := h.2 j
  rw [List.getD_eq_getElem?_getD, List.getElem?_eq_getElem hj] at h1
  exact h1
theorem dtext_line {d : List Int} (h : dok d) : (10 : Int) ∉ dtext d := fun h1 => by
  rcases List.mem_append.1 h1 with h2 | h2
  · exact absurd h2 (by decide)
  · have := hexs_mem (dok_mem h) _ h2
    omega
theorem lineN_line {r : Rf} (h : dok r.dg) : (10 : Int) ∉ lineN r := fun h1 => by
  unfold lineN at h1
  split at h1
  · rcases List.mem_append.1 h1 with h2 | h2
    · exact absurd h2 (by decide)
    · exact dtext_line h h2
  · rcases List.mem_append.1 h1 with h2 | h2
    · exact absurd h2 (by decide)
    · rcases List.mem_append.1 h2 with h2 | h2
      · exact dtext_line h h2
      · rcases List.mem_cons.1 h2 with h2 | h2
        · omega
        · have := dgs_fig _ _ h2
          omega
theorem bodyN_cons (r : Rf) (l : List Rf) : bodyN (r :: l) = lineN r ++ 10 :: bodyN l := by simp [bodyN]
theorem norm_dg (r : Rf) : r.norm.dg = r.dg := by unfold Rf.norm; split <;> rfl
theorem twice_norm (l : List Rf) (r : Rf) : twice (l.map Rf.norm) r.norm = l.any fun q => decide (q.dg = r.dg) := by
  unfold twice
  rw [List.any_map]
  congr 1
  funext q
  simp only [Function.comp, norm_dg]
theorem read_body : ∀ (l acc : List Rf), (∀ r ∈ l, dok r.dg) → tGo acc l = 0 → acc.length + l.length ≤ 64 → rdR (bodyN l) true (acc.map Rf.norm) = ⟨(acc ++ l).map Rf.norm, 0⟩
  | [], acc, _, _, _ => by rw [show bodyN [] = [] from rfl, rdR_none (by simp), if_pos ⟨rfl, rfl⟩, List.append_nil]
  | r :: l, acc, hd, ht, hl => by
    rw [List.length_cons] at hl
    unfold tGo at ht
    have h0 : sizeOk r = true := by
      by_cases h : sizeOk r = true
      · exact h
      · rw [if_pos (by simpa using h)] at ht; omega
    rw [if_neg (by rw [h0]; decide)] at ht
    by_cases h1 : (acc.any fun q => decide (q.dg = r.dg)) = true
    · rw [if_pos h1] at ht; omega
    rw [if_neg h1] at ht
    have hr := hd r (List.mem_cons_self ..)
    have h2 := read_body l (acc ++ [r]) (fun x hx => hd x (List.mem_cons_of_mem _ hx)) ht (by rw [List.length_append, List.length_singleton]; omega)
    rw [bodyN_cons, rdR_step _ (lineN_line hr), if_neg (by decide), line_rdL hr h0]
    dsimp only
    rw [if_neg (by rw [List.length_map]; omega), twice_norm, if_neg h1]
    rw [List.map_append, List.map_append] at h2
    rw [show acc.map Rf.norm ++ [r.norm] = acc.map Rf.norm ++ [r].map Rf.norm from rfl, h2]
    simp
/-- a text is read -/
theorem text_back {l : List Rf} (hd : ∀ r ∈ l, dok r.dg) (h : tE l = 0) : rdF (tB l) = ⟨l.map Rf.norm, 0⟩ := by
  have h1 : tB l = firstL ++ 10 :: bodyN l := by unfold tB; rw [if_pos h]
  unfold tE at h
  by_cases h2 : l.length > 64
  · rw [if_pos h2] at h; omega
  rw [if_neg h2] at h
  have h3 := read_body l [] hd h (by simp only [List.length_nil]; omega)
  show rdR (tB l) false [] = _
  rw [h1, rdR_step _ (by decide), if_pos rfl, if_pos rfl]
  exact h3
theorem rdGo_back : ∀ (f : Nat) (zs : List Int) (acc l : List Rf), rdGo f zs true acc = ⟨l, 0⟩ → acc.length ≤ 64 → ∃ more, l = acc ++ more ∧ zs = bodyN more ∧ tGo acc more = 0 ∧ l.length ≤ 64 ∧ (∀ r ∈ more, dok r.dg ∧ r.norm = r)
  | 0, zs, acc, l, h, _ => by simp [rdGo, rdNo] at h
  | f + 1, zs, acc, l, h, ha => by
    unfold rdGo at h
    cases hc : cutL zs with
    | none =>
      rw [hc] at h
      dsimp only at h
      split at h
      · rename_i h1
        obtain ⟨_, rfl⟩ := h1
        simp only [Rd3.mk.injEq, and_true] at h
        subst h
        exact ⟨[], by simp, rfl, rfl, ha, fun r hr => by cases hr⟩
      · simp [rdNo] at h
    | some p =>
      obtain ⟨a, b⟩ := p
      rw [hc] at h
      dsimp only at h
      rw [if_neg (by decide)] at h
      cases hr : rdL a with
      | none => rw [hr] at h; simp [rdNo] at h
      | some r =>
        rw [hr] at h
        dsimp only at h
        split at h
        · simp [rdNo] at h
        rename_i h64
        split at h
        · simp [rdNo] at h
        rename_i h2
        obtain ⟨more, rfl, rfl, h3, h4, h5⟩ := rdGo_back f b (acc ++ [r]) l h (by rw [List.length_append, List.length_singleton]; omega)
        obtain ⟨h6, h7⟩ := rdL_line hr
        refine ⟨r :: more, by simp, ?_, ?_, h4, ?_⟩
        · rw [cutL_length hc, bodyN_cons, h6]
        · unfold tGo
          rw [if_neg (by rw [h7]; decide)]
          exact (if_neg h2).trans h3
        · intro x hx
          rcases List.mem_cons.1 hx with rfl | hx
          · exact rdL_ok hr
          · exact h5 x hx
/-- what was read has the text that was read -/
theorem read_text {zs : List Int} (h : (rdF zs).err = 0) : tE (rdF zs).l = 0 ∧ tB (rdF zs).l = zs ∧ (rdF zs).l.length ≤ 64 ∧ ∀ r ∈ (rdF zs).l, dok r.dg ∧ r.norm = r := by
  have e : rdF zs = rdGo (zs.length + 1) zs false [] := rfl
  unfold rdGo at e
  cases hc : cutL zs with
  | none =>
    rw [hc] at e
    dsimp only at e
    rw [if_neg (by simp)] at e
    rw [e] at h
    simp [rdNo] at h
  | some p =>
    obtain ⟨a, b⟩ := p
    rw [hc] at e
    dsimp only at e
    rw [if_pos rfl] at e
    by_cases hf : a = firstL
    · rw [if_pos hf] at e
      obtain ⟨more, h1, h2, h3, h4, h5⟩ := rdGo_back _ b [] (rdF zs).l (by rw [← e]; cases hq : rdF zs; rw [hq] at h; dsimp only at h; rw [h]) (by simp)
      rw [List.nil_append] at h1
      rw [h1] at h4 ⊢
      have h6 : tE more = 0 := by unfold tE; rw [if_neg (by omega), h3]
      refine ⟨h6, ?_, h4, h5⟩
      unfold tB
      rw [if_pos h6, cutL_length hc, h2, hf]
    · rw [if_neg hf] at e
      rw [e] at h
      simp [rdNo] at h
theorem rdGo_no : ∀ (f : Nat) (zs : List Int) (st : Bool) (l : List Rf), (rdGo f zs st l).err ≠ 0 → (rdGo f zs st l).l = []
  | 0, _, _, _, _ => rfl
  | f + 1, zs, st, l, h => by
    unfold rdGo at h ⊢
    cases hc : cutL zs with
    | none =>
      rw [hc] at h
      dsimp only at h ⊢
      split
      · rename_i h1; rw [if_pos h1] at h; exact absurd rfl h
      · rfl
    | some p =>
      obtain ⟨a, b⟩ := p
      rw [hc] at h
      dsimp only at h ⊢
      split
      · rename_i h1
        rw [if_pos h1] at h
        split
        · rename_i h2; rw [if_pos h2] at h; exact rdGo_no f _ _ _ h
        · rfl
      · rename_i h1
        rw [if_neg h1] at h
        cases hr : rdL a with
        | none => rfl
        | some r =>
          rw [hr] at h
          dsimp only at h ⊢
          split
          · rfl
          · rename_i h2
            rw [if_neg h2] at h
            split
            · rfl
            · rename_i h3
              rw [if_neg h3] at h
              exact rdGo_no f _ _ _ h
end Go.Proofs.YtahjofjblhpndaaDoor

namespace Go.Proofs.YtahjofjblhpndaaDoor
set_option linter.unusedVariables false
open Go.RowKit Go.Lib

/-- cut at the first c -/
def cutC (c : Int) : List Int → Option (List Int × List Int)
  | [] => none
  | x :: l => if x = c then some ([], l) else (cutC c l).map fun p => (x :: p.1, p.2)
theorem cutC_10 : ∀ zs, cutC 10 zs = cutL zs
  | [] => rfl
  | x :: l => by
    unfold cutC cutL
    rw [cutC_10 l]
theorem cutC_some {c : Int} : ∀ {zs a b : List Int}, cutC c zs = some (a, b) → zs = a ++ c :: b ∧ c ∉ a
  | [], a, b, h => by cases h
  | x :: l, a, b, h => by
    unfold cutC at h
    split at h
    · rename_i h1
      cases h
      subst h1
      exact ⟨rfl, List.not_mem_nil⟩
    · rename_i h1
      cases hc : cutC c l with
      | none => rw [hc] at h; cases h
      | some p =>
        rw [hc] at h
        simp only [Option.map_some, Option.some.injEq, Prod.mk.injEq] at h
        obtain ⟨rfl, rfl⟩ := h
        obtain ⟨h2, h3⟩ := cutC_some (a := p.1) (b := p.2) (by rw [hc])
        refine ⟨by rw [h2]; rfl, fun h4 => ?_⟩
        rcases List.mem_cons.1 h4 with h5 | h5
        · exact h1 h5.symm
        · exact h3 h5
theorem cutC_at {c : Int} : ∀ (a b : List Int), c ∉ a → cutC c (a ++ c :: b) = some (a, b)
  | [], b, _ => by simp [cutC]
  | x :: a, b, h => by
    have h1 : x ≠ c := fun e => h (by rw [e]; exact List.mem_cons_self ..)
    have h2 := cutC_at a b fun h3 => h (List.mem_cons_of_mem _ h3)
    show cutC c (x :: (a ++ c :: b)) = _
    unfold cutC
    rw [if_neg h1, h2]
    rfl
theorem cutC_none {c : Int} : ∀ {zs : List Int}, c ∉ zs → cutC c zs = none
  | [], _ => rfl
  | x :: l, h => by
    have h1 : x ≠ c := fun e => h (by rw [e]; exact List.mem_cons_self ..)
    unfold cutC
    rw [if_neg h1, cutC_none fun h3 => h (List.mem_cons_of_mem _ h3)]
    rfl
/-- a size that is written as sizes are -/
def szC (f : List Int) : Option Int := if 0 ≤ accN 0 f ∧ accN 0 f ≤ 999999999 ∧ dgs (accN 0 f).toNat = f then some (accN 0 f) else none
theorem szC_some {f : List Int} {z : Int} (h : szC f = some z) : 0 ≤ z ∧ z ≤ 999999999 ∧ dgs z.toNat = f := by
  unfold szC at h
  split at h
  · rename_i h1
    cases h
    exact h1
  · cases h
theorem szC_of {f : List Int} {z : Int} (h0 : 0 ≤ z) (h1 : z ≤ 999999999) (h2 : dgs z.toNat = f) : szC f = some z := by
  have e : accN 0 f = z := by rw [← h2, accN_dgs]; omega
  unfold szC
  rw [e, if_pos ⟨h0, h1, h2⟩]
theorem szC_nil : szC [] = none := by
  cases h : szC [] with
  | none => rfl
  | some z =>
    obtain ⟨h0, h1, h2⟩ := szC_some h
    have := dgs_length 8 z.toNat (by omega)
    rw [h2] at this
    simp at this
/-- what stands ahead of the first c, and behind it -/
def cutA (c : Int) (zs : List Int) : List Int := match cutC c zs with | none => zs | some p => p.1
def cutB (c : Int) (zs : List Int) : List Int := match cutC c zs with | none => [] | some p => p.2
def rbC (cs : List Int) : Option Rf := match drd (cutA 32 cs) with
  | none => none
  | some d => match szC (cutB 32 cs) with
    | none => none
    | some z => some ⟨false, d, z⟩
def rmC (cs : List Int) : Option Rf := match drd cs with
  | none => none
  | some d => some ⟨true, d, 0⟩
def rlC (cs : List Int) : Option Rf := if cs.take 5 = bloPre then rbC (cs.drop 5) else if cs.take 9 = manPre then rmC (cs.drop 9) else none
/-- what a line's reference is -/
def Lnr (cs : List Int) (r : Rf) : Prop := lineN r = cs ∧ sizeOk r = true ∧ dok r.dg ∧ r.norm = r
theorem rdL_lnr {cs : List Int} {r : Rf} : rdL cs = some r ↔ Lnr cs r := by
  constructor
  · intro h
    exact ⟨(rdL_line h).1, (rdL_line h).2, (rdL_ok h).1, (rdL_ok h).2⟩
  · rintro ⟨rfl, h2, h3, h4⟩
    rw [line_rdL h3 h2, h4]
theorem dtext_32 {d : List Int} (h : dok d) : (32 : Int) ∉ dtext d := fun h1 => by
  rcases List.mem_append.1 h1 with h2 | h2
  · exact absurd h2 (by decide)
  · have := hexs_mem (dok_mem h) _ h2
    omega
theorem take_eq {p cs : List Int} (h : cs.take p.length = p) : cs = p ++ cs.drop p.length := by
  conv => lhs; rw [← List.take_append_drop p.length cs, h]
theorem rbC_lnr {cs : List Int} {r : Rf} (h : rbC cs = some r) : Lnr (bloPre ++ cs) r := by
  unfold rbC at h
  cases hd : drd (cutA 32 cs) with
  | none => rw [hd] at h; cases h
  | some d =>
    rw [hd] at h
    dsimp only at h
    cases hz : szC (cutB 32 cs) with
    | none => rw [hz] at h; cases h
    | some z =>
      rw [hz] at h
      cases h
      obtain ⟨z0, z1, z2⟩ := szC_some hz
      have hc : ∃ p, cutC 32 cs = some p := by
        cases hc : cutC 32 cs with
        | none => unfold cutB at hz; rw [hc] at hz; dsimp only at hz; rw [szC_nil] at hz; cases hz
        | some p => exact ⟨p, rfl⟩
      obtain ⟨⟨a, b⟩, hc⟩ := hc
      have ha : cutA 32 cs = a := by unfold cutA; rw [hc]
      have hb : cutB 32 cs = b := by unfold cutB; rw [hc]
      rw [ha] at hd
      rw [hb] at z2
      refine ⟨?_, ?_, drd_ok hd, rfl⟩
      · unfold lineN
        rw [if_neg (by simp)]
        dsimp only
        rw [dtext_drd hd, z2, (cutC_some hc).1]
      · unfold sizeOk
        rw [Bool.false_or]
        exact decide_eq_true ⟨z0, z1⟩
theorem rmC_lnr {cs : List Int} {r : Rf} (h : rmC cs = some r) : Lnr (manPre ++ cs) r := by
  unfold rmC at h
  cases hd : drd cs with
  | none => rw [hd] at h; cases h
  | some d =>
    rw [hd] at h
    cases h
    refine ⟨?_, rfl, drd_ok hd, rfl⟩
    unfold lineN
    rw [if_pos rfl]
    dsimp only
    rw [dtext_drd hd]
theorem rlC_rdL (cs : List Int) : rlC cs = rdL cs := by
  have h1 : ∀ r, rlC cs = some r → rdL cs = some r := fun r h => by
    rw [rdL_lnr]
    unfold rlC at h
    split at h
    · rename_i h1
      rw [take_eq (p := bloPre) h1]
      exact rbC_lnr h
    · split at h
      · rename_i h1
        rw [take_eq (p := manPre) h1]
        exact rmC_lnr h
      · cases h
  have h2 : ∀ r, rdL cs = some r → rlC cs = some r := fun r h => by
    obtain ⟨rfl, h2, h3, h4⟩ := rdL_lnr.1 h
    by_cases hm : r.m = true
    · have e : lineN r = manPre ++ dtext r.dg := by unfold lineN; rw [if_pos hm]
      have h5 : ¬ (lineN r).take 5 = bloPre := by
        rw [e]
        intro h
        have h' := congrArg List.head? h
        simp [bloPre, manPre] at h'
      have h6 : (lineN r).take 9 = manPre := by rw [e, show (9 : Nat) = manPre.length from rfl, List.take_left]
      have h7 : (lineN r).drop 9 = dtext r.dg := by rw [e, show (9 : Nat) = manPre.length from rfl, List.drop_left]
      unfold rlC
      rw [if_neg h5, if_pos h6, h7]
      unfold rmC
      rw [drd_dtext h3]
      dsimp only
      have h8 := h4
      unfold Rf.norm at h8
      rw [if_pos hm] at h8
      rw [h8]
    · have hm' : r.m = false := by simpa using hm
      have e : lineN r = bloPre ++ (dtext r.dg ++ 32 :: dgs r.z.toNat) := by unfold lineN; rw [if_neg hm]
      have h5 : (lineN r).take 5 = bloPre := by rw [e, show (5 : Nat) = bloPre.length from rfl, List.take_left]
      have h6 : (lineN r).drop 5 = dtext r.dg ++ 32 :: dgs r.z.toNat := by rw [e, show (5 : Nat) = bloPre.length from rfl, List.drop_left]
      have hc := cutC_at (c := 32) (dtext r.dg) (dgs r.z.toNat) (dtext_32 h3)
      have ha : cutA 32 (dtext r.dg ++ 32 :: dgs r.z.toNat) = dtext r.dg := by unfold cutA; rw [hc]
      have hb : cutB 32 (dtext r.dg ++ 32 :: dgs r.z.toNat) = dgs r.z.toNat := by unfold cutB; rw [hc]
      unfold sizeOk at h2
      rw [hm', Bool.false_or] at h2
      obtain ⟨z0, z1⟩ := of_decide_eq_true h2
      unfold rlC
      rw [if_pos h5, h6]
      unfold rbC
      rw [ha, hb, drd_dtext h3, szC_of z0 z1 rfl]
      dsimp only
      obtain ⟨m, d, z⟩ := r
      simp only at hm'
      rw [hm']
  cases ha : rlC cs with
  | some r => exact (h1 r ha).symm
  | none => cases hb : rdL cs with
    | none => rfl
    | some r => rw [h2 r hb] at ha; cases ha
/-- the lines that the program goes through: each with whether it ends in a line feed -/
def lnsF : Nat → List Int → List (ByteArray × Bool)
  | 0, _ => []
  | f + 1, zs => if zs = [] then [] else match cutL zs with
    | none => [(strOfNums zs, false)]
    | some (a, b) => (strOfNums a, true) :: lnsF f b
def lnsR (zs : List Int) : List (ByteArray × Bool) := lnsF (zs.length + 1) zs
theorem lnsF_fuel : ∀ (f g : Nat) (zs : List Int), zs.length < f → zs.length < g → lnsF f zs = lnsF g zs
  | 0, _, _, h, _ => by omega
  | _, 0, _, _, h => by omega
  | f + 1, g + 1, zs, hf, hg => by
    unfold lnsF
    split
    · rfl
    · cases hc : cutL zs with
      | none => rfl
      | some p =>
        obtain ⟨a, b⟩ := p
        have h1 := cutL_length hc
        have h2 : b.length < zs.length := by rw [h1, List.length_append, List.length_cons]; omega
        dsimp only
        rw [lnsF_fuel f g b (by omega) (by omega)]
theorem lnsR_nil : lnsR [] = [] := rfl
theorem lnsR_last {zs : List Int} (hz : zs ≠ []) (h : cutL zs = none) : lnsR zs = [(strOfNums zs, false)] := by
  unfold lnsR lnsF
  rw [if_neg hz, h]
theorem lnsR_step {zs a b : List Int} (h : cutL zs = some (a, b)) : lnsR zs = (strOfNums a, true) :: lnsR b := by
  have h1 := cutL_length h
  have h2 : b.length < zs.length := by rw [h1, List.length_append, List.length_cons]; omega
  have hz : zs ≠ [] := by rw [h1]; simp
  have e : lnsR zs = lnsF (zs.length + 1) zs := rfl
  rw [e]
  unfold lnsF
  rw [if_neg hz, h]
  dsimp only
  rw [lnsF_fuel zs.length (b.length + 1) b h2 (by omega)]
  rfl
theorem lnsR_length : ∀ (n : Nat) (zs : List Int), zs.length ≤ n → (lnsR zs).length ≤ n
  | 0, zs, h => by
    obtain rfl : zs = [] := List.length_eq_zero_iff.1 (by omega)
    simp [lnsR_nil]
  | n + 1, zs, h => by
    by_cases hz : zs = []
    · subst hz; simp [lnsR_nil]
    · cases hc : cutL zs with
      | none => rw [lnsR_last hz hc]; simp
      | some p =>
        obtain ⟨a, b⟩ := p
        have h1 := cutL_length hc
        have := lnsR_length n b (by rw [h1, List.length_append, List.length_cons] at h; omega)
        rw [lnsR_step hc, List.length_cons]
        omega
/-- one line read -/
def stepX (s : Rd3) (x : ByteArray × Bool) : Rd3 :=
  if s.err ≠ 0 then s else if x.2 = false then rdNo 3 else match rdL (numsOf x.1) with
    | none => rdNo 3
    | some r => if s.l.length = 64 then rdNo 8 else if twice s.l r then rdNo 7 else ⟨s.l ++ [r], 0⟩
def foldX (l : List (ByteArray × Bool)) (s : Rd3) : Rd3 := l.foldl stepX s
theorem foldX_snoc (l : List (ByteArray × Bool)) (x : ByteArray × Bool) (s : Rd3) : foldX (l ++ [x]) s = stepX (foldX l s) x := by
  unfold foldX
  rw [List.foldl_append]
  rfl
theorem foldX_stop : ∀ (l : List (ByteArray × Bool)) (s : Rd3), s.err ≠ 0 → foldX l s = s
  | [], _, _ => rfl
  | x :: l, s, h => by
    show foldX l (stepX s x) = s
    have e : stepX s x = s := by unfold stepX; rw [if_pos h]
    rw [e]
    exact foldX_stop l s h
theorem foldX_prefix {l m : List (ByteArray × Bool)} {s : Rd3} (h : l <+: m) (he : (foldX l s).err ≠ 0) : foldX m s = foldX l s := by
  obtain ⟨k, rfl⟩ := h
  show (l ++ k).foldl stepX s = _
  rw [List.foldl_append]
  exact foldX_stop k _ he
theorem rd_eta (s : Rd3) (h : s.err = 0) : s = ⟨s.l, 0⟩ := by
  cases s
  simp only at h
  rw [h]
theorem foldX_cons (x : ByteArray × Bool) (l : List (ByteArray × Bool)) (s : Rd3) : foldX (x :: l) s = foldX l (stepX s x) := rfl
/-- all lines read -/
theorem foldX_all : ∀ (n : Nat) (zs : List Int), zs.length ≤ n → (∀ x ∈ zs, 0 ≤ x ∧ x < 256) → ∀ l : List Rf, foldX (lnsR zs) ⟨l, 0⟩ = rdR zs true l
  | 0, zs, h, _, l => by
    obtain rfl : zs = [] := List.length_eq_zero_iff.1 (by omega)
    rw [lnsR_nil, rdR_none (by simp), if_pos ⟨rfl, rfl⟩]
    rfl
  | n + 1, zs, h, hb, l => by
    by_cases hz : zs = []
    · subst hz
      rw [lnsR_nil, rdR_none (by simp), if_pos ⟨rfl, rfl⟩]
      rfl
    · cases hc : cutL zs with
      | none =>
        have hn : (10 : Int) ∉ zs := fun hm => by
          have e := List.append_of_mem hm
          obtain ⟨a, b, rfl⟩ := e
          have h3 : ∀ (a : List Int), cutL (a ++ 10 :: b) ≠ none := fun a => by
            induction a with
            | nil => simp [cutL]
            | cons x a ih =>
              show cutL (x :: (a ++ 10 :: b)) ≠ none
              unfold cutL
              split
              · simp
              · cases h4 : cutL (a ++ 10 :: b) with
                | none => exact absurd h4 ih
                | some p => simp
          exact h3 a hc
        rw [lnsR_last hz hc, rdR_none hn, if_neg (by simp [hz]), foldX_cons]
        unfold stepX
        rw [if_neg (by simp), if_pos rfl]
        rfl
      | some p =>
        obtain ⟨a, b⟩ := p
        have h1 := cutL_length hc
        have hba : ∀ j, 0 ≤ a.getD j 0 ∧ a.getD j 0 < 256 := fun j => by
          by_cases hj : j < a.length
          · rw [List.getD_eq_getElem?_getD, List.getElem?_eq_getElem hj]
            exact hb _ (by rw [h1]; exact List.mem_append_left _ (List.getElem_mem hj))
          · rw [List.getD_eq_getElem?_getD, List.getElem?_eq_none (by omega)]
            simp
        rw [lnsR_step hc]
        conv => rhs; rw [h1]
        rw [rdR_step _ (cutL_in hc), if_neg (by decide), foldX_cons]
        unfold stepX
        rw [if_neg (by simp), if_neg (by simp)]
        dsimp only
        rw [numsOf_strOfNums hba]
        cases hr : rdL a with
        | none => exact foldX_stop _ _ (by simp [rdNo])
        | some r =>
          dsimp only
          split
          · exact foldX_stop _ _ (by simp [rdNo])
          · split
            · exact foldX_stop _ _ (by simp [rdNo])
            · exact foldX_all n b (by rw [h1, List.length_append, List.length_cons] at h; omega) (fun x hx => hb x (by rw [h1]; exact List.mem_append_right _ (List.mem_cons_of_mem _ hx))) _
def hd11 : List Int := firstL ++ [10]
/-- what is read behind the first line -/
theorem rdF_head {zs b : List Int} (h : zs = hd11 ++ b) : rdF zs = rdR b true [] := by
  rw [h, show hd11 ++ b = firstL ++ 10 :: b by simp [hd11]]
  show rdR (firstL ++ 10 :: b) false [] = _
  rw [rdR_step _ (by decide), if_pos rfl, if_pos rfl]
theorem rdF_none {zs : List Int} (h : ¬ hd11 <+: zs) : rdF zs = rdNo 3 := by
  have e : rdF zs = rdGo (zs.length + 1) zs false [] := rfl
  unfold rdGo at e
  cases hc : cutL zs with
  | none =>
    rw [hc] at e
    dsimp only at e
    rw [if_neg (by simp)] at e
    exact e
  | some p =>
    obtain ⟨a, b⟩ := p
    rw [hc] at e
    dsimp only at e
    rw [if_pos rfl, if_neg] at e
    · exact e
    · intro hf
      apply h
      rw [cutL_length hc, hf]
      exact ⟨b, by simp [hd11]⟩
end Go.Proofs.YtahjofjblhpndaaDoor
