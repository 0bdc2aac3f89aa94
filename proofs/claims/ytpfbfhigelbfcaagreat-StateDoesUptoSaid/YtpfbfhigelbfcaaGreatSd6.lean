/- Digests: arrays of 32 bytes, compared as whole values; rows of them in memory; The reference of layer 6: Less; A digest whose first byte is 1; Plain tables: pairs of digests and values of any type. (gen_tg.py); Open addressing, plainly, with values of any type. (gen_tg.py); The reference of layer 6: Same -/
import Derived.Test.YtpfbfhigelbfcaaGreatSd5
import Derived.ChangeKeysEq
import Derived.OpenShut
set_option linter.unusedSimpArgs false
set_option linter.unusedVariables false
namespace Go.Proofs.YtpfbfhigelbfcaaGreat
open Go.RowKit Go.Lib
def dok (d : List Int) : Prop := d.length = 32 ∧ ∀ j, 0 ≤ d.getD j 0 ∧ d.getD j 0 < 256
def dzero : List Int := List.replicate 32 0
theorem dok_zero : dok dzero := ⟨rfl, bytes_replicate 32⟩
theorem key8 (D : Nat) (x : Int) (h : 0 ≤ x ∧ x < 256) : Tryz.prog.keyLits (D + 1) 5 [.int .u8 x] = some [.int .u8 x] := by
 unfold Program.keyLits
 rw [Tryz.underlying5]
 simp [Lit.wf, IntKind.min, IntKind.max, IntKind.signed, IntKind.bits]
 omega
theorem mapM_keys (P : Program) (D : Nat) (e : TypeId) (f : Nat → List Value) (g : Nat → List Lit) : ∀ is : List Nat, (∀ i ∈ is, P.keyLits D e (f i) = some (g i)) → is.mapM (fun i => P.keyLits D e (f i)) = some (is.map g)
 | [], _ => rfl
 | i :: is, h => by
   rw [List.mapM_cons, h i (by simp), mapM_keys P D e f g is (fun j hj => h j (by simp [hj]))]
   rfl
theorem info8' : ∃ i, Tryz.prog.info? 5 = some i := info_of_underlying Tryz.underlying5
theorem plain8 : Tryz.prog.plainKey 5 = true := by kernel_rfl
theorem digest_keys (l : List Int) (h : dok l) : (List.range 32).mapM (fun i => Tryz.prog.keyLits 2 5 (((bcs l).toList.drop (i * Tryz.prog.cellsOf 5)).take (Tryz.prog.cellsOf 5))) = some ((List.range 32).map fun i => [.int .u8 (l.getD i 0)]) :=
 mapM_keys Tryz.prog 2 5 (fun i => (((bcs l).toList.drop (i * Tryz.prog.cellsOf 5)).take (Tryz.prog.cellsOf 5))) (fun i => [.int .u8 (l.getD i 0)]) (List.range 32) (fun i hi => by
  have hi' : i < l.length := by rw [h.1]; exact List.mem_range.1 hi
  rw [cells8, Nat.mul_one]
  have e : ((bcs l).toList.drop i).take 1 = [.int .u8 (l.getD i 0)] := by
   simp only [bcs, List.toList_toArray]
   rw [List.drop_eq_getElem_cons (by simpa using hi')]
   simp [List.getD_eq_getElem?_getD, hi']
  rw [e]
  exact key8 1 _ (h.2 i))
theorem flat_one {α : Type} (f : Nat → α) : ∀ is : List Nat, (is.map fun i => [f i]).flatten = is.map f
 | [] => rfl
 | i :: is => by rw [List.map_cons, List.flatten_cons, flat_one f is]; rfl
theorem digest_ext {l m : List Int} (hl : l.length = 32) (hm : m.length = 32) (h : ∀ i, i < 32 → l.getD i 0 = m.getD i 0) : l = m := by
 apply List.ext_getElem (by omega)
 intro i h1 h2
 have := h i (by omega)
 simpa [List.getD_eq_getElem?_getD, h1, h2] using this
theorem digest_eq (l m : List Int) (hl : dok l) (hm : dok m) (W : World) : (Op.equalIn 10000 35 (.agg (bcs l)) (.agg (bcs m))).run Tryz.prog W = .ok (decide (l = m)) W := by
 obtain ⟨i, hi⟩ := info8'
 rw [run_equalIn_array W 9999 (bcs l) (bcs m) Tryz.underlying35 hi]
 obtain ⟨r, hr, hr2⟩ := run_eqItems_plain W 9998 plain8 (bcs l) (bcs m) (List.range 32) _ _ (digest_keys l hl) (digest_keys m hm)
 have hrr : r = decide (l = m) := by
  rw [Bool.eq_iff_iff, hr2, decide_eq_true_iff]
  constructor
  ·intro h
   refine digest_ext hl.1 hm.1 fun i hi => ?_
   rw [flat_one, flat_one] at h
   have h1 := congrArg (fun x => x[i]?) h
   simp [hi] at h1
   simpa [List.getD_eq_getElem?_getD] using h1
  ·intro h; rw [h]
 rw [hr, hrr]
theorem cells24 : Tryz.prog.cellsOf 35 = 32 := by kernel_rfl
/-- A digest, opened. -/
theorem open_dig {H : Type} {enc : TypeId × Value → H} {W : World} {base : Nat} {sp : Nat → Bool} {held : Bool} {fuel : Nat} {cs : List Value} {x : DataW H × List MemPlace} (h : DataW.trod enc Tryz.prog W base sp held fuel 35 cs = some x) :
 ∃ zs, dok zs ∧ cs = zs.map (Value.int .u8) ∧ Rows.uptoBulk x.1 = 33 ∧ x.2 = [] := by
 obtain ⟨xs, m, rfl, rfl, hl, hn, hi⟩ := DataW.trod_array Tryz.underlying35 h
 rw [cells24] at hl
 have hc : ∀ i, i < 32 → ∃ n : Int, cs[i]? = some (.int .u8 n) ∧ (0 ≤ n ∧ n < 256) ∧ xs[i]? = some (.lit (.int .u8 n), []) := by
  intro i hi32
  have h1 := hi i hi32
  rw [cells8, Nat.mul_one, List.drop_eq_getElem_cons (by omega)] at h1
  simp only [List.take_succ_cons, List.take_zero] at h1
  have hx : xs[i]? = some (xs[i]'(by omega)) := List.getElem?_eq_getElem _
  rw [hx] at h1
  obtain ⟨n, h2, h3, h4⟩ := DataW.trod_int Tryz.underlying5 h1
  refine ⟨n, ?_, ?_, by rw [hx, h3]⟩
  ·rw [List.getElem?_eq_getElem (by omega)]
   simpa using h2
  ·have := h4
   simp [Lit.wf, IntKind.min, IntKind.max, IntKind.signed, IntKind.bits] at this
   omega
 refine ⟨cs.map intOf, ⟨by simpa using hl, fun j => ?_⟩, ?_, ?_, ?_⟩
 ·by_cases hj : j < 32
  ·obtain ⟨n, h1, h2, _⟩ := hc j hj
   rw [List.getD_eq_getElem?_getD, List.getElem?_map, h1]
   exact h2
  ·rw [List.getD_eq_getElem?_getD, List.getElem?_eq_none (by simp; omega)]
   simp
 ·apply List.ext_getElem?
  intro j
  by_cases hj : j < 32
  ·obtain ⟨n, h1, _, _⟩ := hc j hj
   rw [List.getElem?_map, List.getElem?_map, h1]
   rfl
  ·rw [List.getElem?_eq_none (by omega), List.getElem?_eq_none (by simp; omega)]
 ·have hb : ∀ (ys : List (DataW H × List MemPlace)), (∀ y ∈ ys, ∃ n : Int, y = (.lit (.int .u8 n), [])) → Rows.uptoBulkAll (ys.map (·.1)) = ys.length := by
   intro ys
   induction ys with
   | nil => intro _; rfl
   | cons y ys ih =>
     intro hy
     obtain ⟨n, rfl⟩ := hy y (by simp)
     simp only [List.map_cons, Rows.uptoBulkAll, Rows.uptoBulk, List.length_cons, ih (fun z hz => hy z (by simp [hz]))]
     omega
  simp only [Rows.uptoBulk]
  rw [hb xs (fun y hy => ?_), hn]
  obtain ⟨i, h1, h2⟩ := List.getElem_of_mem hy
  obtain ⟨n, _, _, h3⟩ := hc i (by omega)
  rw [List.getElem?_eq_getElem h1, h2] at h3
  exact ⟨n, by simpa using h3⟩
 ·simp only [List.flatMap_eq_nil_iff]
  intro y hy
  obtain ⟨i, h1, h2⟩ := List.getElem_of_mem hy
  obtain ⟨n, _, _, h3⟩ := hc i (by omega)
  rw [List.getElem?_eq_getElem h1, h2] at h3
  simp only [Option.some.injEq] at h3
  rw [h3]
/-- Digests that a slice reads as. -/
def Ds (w : World) (p : Option Addr) (n : Nat) (L : List (List Int)) : Prop :=
 L.length = n ∧ (∀ d ∈ L, dok d) ∧ (n = 0 ∨ ∃ b off, p = some ⟨b, off, none⟩ ∧ ∀ j k, j < n → k < 32 → w.cell? ⟨b, off + (j * 32 + k), none⟩ = some (.int .u8 ((L.getD j []).getD k 0)))
theorem Ds.ok {w : World} {p : Option Addr} {n : Nat} {L : List (List Int)} (h : Ds w p n L) (j : Nat) (hj : j < n) : dok (L.getD j []) := by
 have hl : j < L.length := by rw [h.1]; exact hj
 rw [List.getD_eq_getElem?_getD, List.getElem?_eq_getElem hl]
 exact h.2.1 _ (List.getElem_mem hl)
theorem Ds.later {w w' : World} {p : Option Addr} {n : Nat} {L : List (List Int)} (h : Ds w p n L) (hb : Below w.heap.size w w') : Ds w' p n L := by
 obtain ⟨h1, h2, h3⟩ := h
 refine ⟨h1, h2, ?_⟩
 rcases h3 with h3 | ⟨b, off, hp, hc⟩
 ·exact Or.inl h3
 ·refine Or.inr ⟨b, off, hp, fun j k hj hk => ?_⟩
  rw [hb.cell (World.block_lt_of_cell? w _ (hc j k hj hk))]
  exact hc j k hj hk
theorem Ds.range {w : World} {b off n : Nat} {L : List (List Int)} (h : Ds w (some ⟨b, off, none⟩) n L) (j : Nat) (hj : j < n) : w.rangeAt b (off + j * 32) ((L.getD j []).map (Value.int .u8)) := by
 have hd := h.ok j hj
 obtain ⟨h1, h2, h3⟩ := h
 rcases h3 with h3 | ⟨b', off', hp, hc⟩
 ·omega
 ·simp only [Option.some.injEq, Addr.mk.injEq, and_true] at hp
  obtain ⟨rfl, rfl⟩ := hp
  intro k v hv
  rw [List.getElem?_map] at hv
  obtain ⟨x, hx, rfl⟩ := Option.map_eq_some_iff.1 hv
  have hk : k < 32 := by
   have := (List.getElem?_eq_some_iff.1 hx).1
   rw [hd.1] at this
   exact this
  rw [Nat.add_assoc, hc j k hj hk, List.getD_eq_getElem?_getD, hx]
  rfl
/-- l[j], loaded. -/
theorem Ds.load {w : World} {b off n : Nat} {L : List (List Int)} (h : Ds w (some ⟨b, off, none⟩) n L) (j : Nat) (hj : j < n) : (Instr.loadAt 35 (.pointer (some ⟨b, off + j * 32, none⟩))).run Tryz.prog w = .ok (.agg (bcs (L.getD j []))) w :=
 run_loadAt_mid w b (off + j * 32) 35 _ _ (h.range j hj) Tryz.underlying35 rfl (by rw [List.length_map, (h.ok j hj).1]; exact size32)
theorem Yw.bs {w : World} {b : Nat} {t : TypeId} {l : List Int} (h : Yw w b t l) (hb : ∀ j, 0 ≤ l.getD j 0 ∧ l.getD j 0 < 256) (n : Nat) (hn : l.length = n) : Bs w (some ⟨b, 0, none⟩) n l :=
 ⟨hn, hb, Or.inr ⟨b, 0, rfl, fun j hj => by rw [Nat.zero_add]; exact h.cell j (by omega)⟩⟩
theorem Yw.load {w : World} {b : Nat} {l : List Int} (h : Yw w b 35 l) (hl : l.length = 32) : (Instr.loadAt 35 (.pointer (some ⟨b, 0, none⟩))).run Tryz.prog w = .ok (.agg (bcs l)) w := by
 have hc : w.rangeAt b 0 (l.map (Value.int .u8)) := by
  intro k v hv
  rw [List.getElem?_map] at hv
  obtain ⟨x, hx, rfl⟩ := Option.map_eq_some_iff.1 hv
  have hk := (List.getElem?_eq_some_iff.1 hx).1
  rw [Nat.zero_add, h.cell k hk, List.getD_eq_getElem?_getD, hx]
  rfl
 exact run_loadAt_mid w b 0 35 _ _ hc Tryz.underlying35 rfl (by rw [List.length_map, hl]; exact size32)
/-- A whole value loaded in a region that draws its order and only reads. -/
theorem quiet_load {P : Program} {o : Oper} {a : Act} {C : World → Prop} {K : Act → Prop} (ty : TypeId) (x : Operand) (ho : o.op = .load ty x) (q : Value) (hx : a.eval x = q) (v : Value)
 (hr : ∀ w, C w → (Instr.loadAt ty q).run P w = .ok v w) (hk : K (a.put o.dst v)) : o.quiet P a C K := by
 refine ⟨v, fun w hw => ?_, hk⟩
 unfold Oper.quietAt
 simp [execOp, ho, hx, hr w hw, Result.andThen, Oper.quietUpon]
theorem quiet_want {P : Program} {ops : Array Oper} {C : World → Prop} {Q : Act → Prop} {a : Act} {o : Oper} {rest : List Oper} (hg : o.guard = none) (h : ∀ K : Act → Prop, (∀ a, wpQuiet P ops C Q rest a → K a) → o.quiet P a C K) : wpQuiet P ops C Q (o :: rest) a :=
 wpQuiet_step fun K hK => by rw [if_pos (by simp [Region.wanted, hg])]; exact h K hK
set_option maxRecDepth 100000 in
theorem rless_any (a b : List Int) (w : World) (ha : dok a) (hb : dok b) :
 Calls Tryz.prog 108 #[.agg (bcs a), .agg (bcs b)] w fun e w' => e = .returned (.bool (dlt a b)) ∧ Below w.heap.size w w' := by
 have HA := Lib.hid ha
 have HB := Lib.hid hb
 have HB0 : Hid (Below w.heap.size w ((w.alloc (.cells (bcs a) 35)).alloc (.cells (bcs b) 35))) := Lib.hid (((Below.refl _ _).alloc (Nat.le_refl _) _).alloc (by simp) _)
 have HYA : Hid (Yw ((w.alloc (.cells (bcs a) 35)).alloc (.cells (bcs b) 35)) w.heap.size 35 a) := Lib.hid (Yw.later (w := w.alloc (.cells (bcs a) 35)) (heap_alloc_new _ _) ((Below.refl _ _).alloc (Nat.le_refl _) _))
 have HYB : Hid (Yw ((w.alloc (.cells (bcs a) 35)).alloc (.cells (bcs b) 35)) (w.heap.size + 1) 35 b) := Lib.hid (by
  have h := heap_alloc_new (w.alloc (.cells (bcs a) 35)) (.cells (bcs b) 35)
  rw [World.size_alloc] at h
  exact h)
 clear ha hb
 go_enter Tryz.func108, Tryz.ntmps108
 go_wp2
 generalize (w.alloc (.cells (bcs a) 35)).alloc (.cells (bcs b) 35) = w0 at *
 go_loopw [5] (fun i wr => ∃ k : Nat, k ≤ 32 ∧ i = .int .i64 (k : Int) ∧ Hid (a.take k = b.take k) ∧ Hid (Yw wr w.heap.size 35 a) ∧ Hid (Yw wr (w.heap.size + 1) 35 b) ∧ Hid (Below w.heap.size w wr)) (fun i _ => 32 - (intOf i).toNat)
 case atStart => exact ⟨0, by omega, rfl, Lib.hid (by simp), HYA, HYB, HB0⟩
 case round =>
  obtain ⟨k, hk, rfl, ht, hya, hyb, hbl⟩ := hrel
  by_cases hlt : k < 32
  ·have hA := HA.out.1
   have hB := HB.out.1
   have ca := hya.out.cell k (by omega)
   have cb := hyb.out.cell k (by omega)
   obtain ⟨x, hx⟩ : ∃ x, a.getD k 0 = x := ⟨_, rfl⟩
   obtain ⟨y, hy⟩ : ∃ y, b.getD k 0 = y := ⟨_, rfl⟩
   have HNE : Hid (x ≠ y → dlt a b = decide (x < y)) := Lib.hid fun h => by
    have h1 := dlt_at (k := k) ht.out (by omega) (by omega) (by rw [hx, hy]; exact h)
    rw [hx, hy] at h1
    exact h1
   have HEQ : Hid (x = y → a.take (k + 1) = b.take (k + 1)) := Lib.hid fun h => take_step (by omega) (by omega) ht.out (by
    rw [← hx, ← hy, List.getD_eq_getElem?_getD, List.getD_eq_getElem?_getD] at h
    exact h)
   have HCA : Hid (∀ W, Yw W w.heap.size 35 a → W.cell? ⟨w.heap.size, k, none⟩ = some (.int .u8 x)) := Lib.hid fun W h => by rw [← hx]; exact h.cell k (by omega)
   have HCB : Hid (∀ W, Yw W (w.heap.size + 1) 35 b → W.cell? ⟨w.heap.size + 1, k, none⟩ = some (.int .u8 y)) := Lib.hid fun W h => by rw [← hy]; exact h.cell k (by omega)
   rw [hx] at ca
   rw [hy] at cb
   clear hx hy hA hB
   go_wp2
   go_quiet (fail)
   have hbd : Below wr.heap.size wr (wr.drewN nq) := below_drewN (Below.refl _ _) _
   have HYA2 := Lib.hid (hya.out.later hbd)
   have HYB2 := Lib.hid (hyb.out.later hbd)
   have HBL2 : Hid (Below w.heap.size w (wr.drewN nq)) := Lib.hid (below_step hbl.out hbd)
   have HA := Lib.hid HA.out.1
   have HB := Lib.hid HB.out.1
   clear hbd hya hyb hbl ca cb
   generalize wr.drewN nq = wd at *
   have ca : wd.cell? ⟨w.heap.size, k, none⟩ = some (.int .u8 x) := HCA.out wd HYA2.out
   have cb : wd.cell? ⟨w.heap.size + 1, k, none⟩ = some (.int .u8 y) := HCB.out wd HYB2.out
   by_cases hxy : x = y
   ·have hb1 : (x != y) = false := by simpa using hxy
    go_wp2
    exact ⟨⟨k + 1, by omega, by go_num, Lib.hid (HEQ.out hxy), HYA2, HYB2, HBL2⟩, by simp [intOf] <;> omega⟩
   ·have hb1 : (x != y) = true := by simpa using hxy
    go_wp2
    go_quiet (fail)
    go_wp2
    go_ret
    refine ⟨ret_bool (HNE.out hxy).symm, ?_⟩
    exact below_drewN HBL2.out _
  ·obtain rfl : k = 32 := by omega
   have HF : Hid (dlt a b = false) := Lib.hid (by
    have h := ht.out
    rw [List.take_of_length_le (by rw [HA.out.1]; omega), List.take_of_length_le (by rw [HB.out.1]; omega)] at h
    rw [h, dlt_self])
   go_wp2
   go_ret
   exact ⟨ret_bool HF.out.symm, hbl.out⟩
end Go.Proofs.YtpfbfhigelbfcaaGreat
namespace Go.Proofs.YtpfbfhigelbfcaaGreat
def lvS : List Int := 1 :: List.replicate 31 0
theorem lvS_ok : dok lvS := ⟨rfl, fun j => by
 by_cases hj : j < 32
 ·have : ∀ j : Fin 32, 0 ≤ lvS.getD j.val 0 ∧ lvS.getD j.val 0 < 256 := by decide
  exact this ⟨j, hj⟩
 ·rw [List.getD_eq_getElem?_getD, List.getElem?_eq_none (by show 32 ≤ j; omega)]
  simp⟩
namespace Tg
/-- a digest and what it has -/
structure Pg (α : Type) where
 dg : List Int
 v : α
variable {α : Type}
def getN (L : List (Pg α)) (d : List Int) : Option α := match L with
 | [] => none
 | x :: M => if x.dg = d then some x.v else getN M d
def cutN (L : List (Pg α)) (d : List Int) : List (Pg α) := L.filter fun x => decide (x.dg ≠ d)
def putN (L : List (Pg α)) (d : List Int) (v : α) : List (Pg α) := cutN L d ++ [⟨d, v⟩]
def slotsN (L : List (Pg α)) (s : Int) (d : List Int) : Int := if (getN L d).isSome = false ∧ ((cutN L d).length + 1) * 4 > s * 3 then s * 2 else s
def keysN (L : List (Pg α)) : List (List Int) := L.map (·.dg)
/-- no digest twice -/
def Uniq (L : List (Pg α)) : Prop := (keysN L).Nodup
theorem getN_none {L : List (Pg α)} {d : List Int} : getN L d = none ↔ ∀ x ∈ L, x.dg ≠ d := by
 induction L with
 | nil => simp [getN]
 | cons x M ih =>
   unfold getN
   by_cases h : x.dg = d
   ·rw [if_pos h]
    simp [h]
   ·rw [if_neg h, ih]
    simp [h]
theorem getN_some {L : List (Pg α)} {d : List Int} {v : α} (h : getN L d = some v) : (⟨d, v⟩ : Pg α) ∈ L := by
 induction L with
 | nil => cases h
 | cons x M ih =>
   unfold getN at h
   by_cases hx : x.dg = d
   ·rw [if_pos hx] at h
    cases h
    subst hx
    exact List.mem_cons_self ..
   ·rw [if_neg hx] at h
    exact List.mem_cons_of_mem _ (ih h)
theorem getN_mem {L : List (Pg α)} (hu : Uniq L) {x : Pg α} (hx : x ∈ L) : getN L x.dg = some x.v := by
 induction L with
 | nil => cases hx
 | cons y M ih =>
   unfold Uniq keysN at hu
   rw [List.map_cons, List.nodup_cons] at hu
   unfold getN
   rcases List.mem_cons.1 hx with rfl | h
   ·rw [if_pos rfl]
   ·have hne : y.dg ≠ x.dg := fun e => hu.1 (by rw [e]; exact List.mem_map_of_mem h)
    rw [if_neg hne]
    exact ih hu.2 h
theorem cutN_uniq {L : List (Pg α)} (hu : Uniq L) (d : List Int) : Uniq (cutN L d) := by
 unfold Uniq keysN cutN at *
 exact (List.Sublist.map _ List.filter_sublist).nodup hu
theorem cutN_mem {L : List (Pg α)} {d : List Int} {x : Pg α} : x ∈ cutN L d ↔ x ∈ L ∧ x.dg ≠ d := by
 unfold cutN
 rw [List.mem_filter]
 simp
theorem putN_uniq {L : List (Pg α)} (hu : Uniq L) (d : List Int) (v : α) : Uniq (putN L d v) := by
 have h1 := cutN_uniq hu d
 unfold Uniq keysN putN at *
 rw [List.map_append, List.nodup_append]
 refine ⟨h1, by simp, ?_⟩
 intro a ha b hb
 obtain ⟨x, hx, rfl⟩ := List.mem_map.1 ha
 rw [List.map_cons, List.map_nil, List.mem_singleton] at hb
 subst hb
 exact (cutN_mem.1 hx).2
theorem putN_length (L : List (Pg α)) (d : List Int) (v : α) : (putN L d v).length = (cutN L d).length + 1 := by
 unfold putN
 rw [List.length_append, List.length_singleton]
theorem cutN_none {L : List (Pg α)} {d : List Int} (h : getN L d = none) : cutN L d = L := by
 unfold cutN
 rw [List.filter_eq_self]
 intro x hx
 exact decide_eq_true (getN_none.1 h x hx)
theorem cutN_some {L : List (Pg α)} (hu : Uniq L) {d : List Int} {v : α} (h : getN L d = some v) : (cutN L d).length + 1 = L.length := by
 induction L with
 | nil => cases h
 | cons y M ih =>
   unfold Uniq keysN at hu
   rw [List.map_cons, List.nodup_cons] at hu
   unfold getN at h
   by_cases hy : y.dg = d
   ·have hn : getN M d = none := getN_none.2 fun x hx e => hu.1 (by rw [hy, ← e]; exact List.mem_map_of_mem hx)
    have e := cutN_none hn
    unfold cutN at e ⊢
    rw [List.filter_cons_of_neg (by simp [hy]), e, List.length_cons]
   ·rw [if_neg hy] at h
    have := ih hu.2 h
    unfold cutN at this ⊢
    rw [List.filter_cons_of_pos (by simp [hy]), List.length_cons, List.length_cons, this]
end Tg
end Go.Proofs.YtpfbfhigelbfcaaGreat
namespace Go.Proofs.YtpfbfhigelbfcaaGreat
open Go.RowKit Go.Lib
namespace Tg
abbrev Sg (α : Type) := List (Option (Pg α))
variable {α : Type}
def atS (A : Sg α) (p : Nat) : Option (Pg α) := (A[p]?).join
/-- the pairs, in the order of their slots -/
def cont (A : Sg α) : List (Pg α) := A.filterMap id
/-- a digest's first two bytes -/
def hmN (d : List Int) : Nat := (d.getD 0 0 + 256 * d.getD 1 0).toNat
def posN (A : Sg α) (d : List Int) (t : Nat) : Nat := (hmN d + t) % A.length
theorem atS_lt {A : Sg α} {p : Nat} {x : Pg α} (h : atS A p = some x) : p < A.length := by
 unfold atS at h
 cases hp : A[p]? with
 | none => rw [hp] at h; cases h
 | some a => exact (List.getElem?_eq_some_iff.1 hp).1
theorem atS_get {A : Sg α} {p : Nat} (hp : p < A.length) : A[p]? = some (atS A p) := by
 unfold atS
 rw [List.getElem?_eq_getElem hp]
 rfl
theorem atS_set (A : Sg α) {p : Nat} (hp : p < A.length) (a : Option (Pg α)) (q : Nat) : atS (A.set p a) q = if q = p then a else atS A q := by
 unfold atS
 rw [List.getElem?_set]
 by_cases h : p = q
 ·subst h
  rw [if_pos rfl, if_pos hp, if_pos rfl]
  rfl
 ·rw [if_neg h, if_neg (fun e => h e.symm)]
theorem set_split {A : Sg α} {p : Nat} (hp : p < A.length) (a : Option (Pg α)) : A.set p a = A.take p ++ a :: A.drop (p + 1) := by
 rw [List.set_eq_take_append_cons_drop, if_pos hp]
theorem cont_append (A B : Sg α) : cont (A ++ B) = cont A ++ cont B := List.filterMap_append
theorem cont_some (x : Pg α) (B : Sg α) : cont (some x :: B) = x :: cont B := rfl
theorem cont_none (B : Sg α) : cont (none :: B) = cont B := rfl
theorem cont_set {A : Sg α} {p : Nat} (hp : p < A.length) (x : Pg α) : (cont (A.set p (some x))).Perm (x :: cont (A.set p none)) := by
 rw [set_split hp, set_split hp, cont_append, cont_append, cont_some, cont_none]
 exact List.perm_middle
theorem set_same {A : Sg α} {p : Nat} (hp : p < A.length) : A.set p (atS A p) = A := by
 apply List.ext_getElem?
 intro q
 rw [List.getElem?_set]
 by_cases h : p = q
 ·subst h
  rw [if_pos rfl, if_pos hp, atS_get hp]
 ·rw [if_neg h]
theorem cont_at {A : Sg α} {p : Nat} {y : Pg α} (h : atS A p = some y) : (cont A).Perm (y :: cont (A.set p none)) := by
 have h1 := cont_set (atS_lt h) y
 rw [← h, set_same (atS_lt h)] at h1
 exact h1
theorem mem_cont {A : Sg α} {x : Pg α} : x ∈ cont A ↔ ∃ p, atS A p = some x := by
 unfold cont
 rw [List.mem_filterMap]
 constructor
 ·rintro ⟨a, ha, hx⟩
  obtain ⟨p, hp⟩ := List.getElem?_of_mem ha
  refine ⟨p, ?_⟩
  unfold atS
  rw [hp]
  exact hx
 ·rintro ⟨p, hp⟩
  have h1 := atS_get (atS_lt hp)
  exact ⟨_, List.mem_of_getElem? h1, hp⟩
theorem uniq_perm {L M : List (Pg α)} (h : L.Perm M) (hu : Uniq L) : Uniq M := (List.Perm.map (fun x : Pg α => x.dg) h).nodup_iff.1 hu
theorem getN_perm {L M : List (Pg α)} (h : L.Perm M) (hu : Uniq L) (d : List Int) : getN L d = getN M d := by
 cases hg : getN M d with
 | none =>
   rw [getN_none] at hg ⊢
   exact fun x hx => hg x (h.mem_iff.1 hx)
 | some v =>
   have h1 := h.mem_iff.2 (getN_some hg)
   exact getN_mem hu h1
theorem cutN_perm {L M : List (Pg α)} (h : L.Perm M) (d : List Int) : (cutN L d).Perm (cutN M d) := h.filter _
theorem putN_perm {L M : List (Pg α)} (h : L.Perm M) (d : List Int) (v : α) : (putN L d v).Perm (putN M d v) := (cutN_perm h d).append_right _
/-- whichever slot has a pair is reached from its digest's own slot over full ones -/
def Inv (A : Sg α) : Prop := ∀ p x, atS A p = some x → ∃ u, u < A.length ∧ p = posN A x.dg u ∧ ∀ u', u' < u → (atS A (posN A x.dg u')).isSome = true
/-- t slots from the digest's own one on hold others -/
def Pre (A : Sg α) (d : List Int) (t : Nat) : Prop := ∀ u, u < t → ∃ x, atS A (posN A d u) = some x ∧ x.dg ≠ d
theorem Pre.zero (A : Sg α) (d : List Int) : Pre A d 0 := fun u hu => absurd hu (Nat.not_lt_zero _)
theorem Pre.succ {A : Sg α} {d : List Int} {t : Nat} (h : Pre A d t) {x : Pg α} (hx : atS A (posN A d t) = some x) (hd : x.dg ≠ d) : Pre A d (t + 1) := fun u hu => by
 rcases Nat.lt_or_ge u t with h1 | h1
 ·exact h u h1
 ·obtain rfl : u = t := by omega
  exact ⟨x, hx, hd⟩
theorem posN_lt {A : Sg α} (h : 0 < A.length) (d : List Int) (t : Nat) : posN A d t < A.length := Nat.mod_lt _ h
theorem posN_succ (A : Sg α) (d : List Int) (t : Nat) : posN A d (t + 1) = (posN A d t + 1) % A.length := by
 unfold posN
 rw [Nat.mod_add_mod, Nat.add_assoc]
/-- every slot is reached -/
theorem posN_all {A : Sg α} (d : List Int) {p : Nat} (hp : p < A.length) : ∃ u, u < A.length ∧ posN A d u = p := by
 have h0 : 0 < A.length := by omega
 refine ⟨(p + (A.length - hmN d % A.length)) % A.length, Nat.mod_lt _ h0, ?_⟩
 unfold posN
 have h1 := Nat.mod_lt (hmN d) h0
 rw [Nat.add_mod_mod, ← Nat.mod_add_mod, show hmN d % A.length + (p + (A.length - hmN d % A.length)) = p + A.length by omega, Nat.add_mod_right, Nat.mod_eq_of_lt hp]
theorem posN_inj {A : Sg α} {d : List Int} {u u' : Nat} (h1 : u < A.length) (h2 : u' < A.length) (h : posN A d u = posN A d u') : u = u' := by
 unfold posN at h
 have h0 : 0 < A.length := by omega
 have e1 : (hmN d + u) % A.length = (hmN d % A.length + u) % A.length := (Nat.mod_add_mod _ _ _).symm
 have e2 : (hmN d + u') % A.length = (hmN d % A.length + u') % A.length := (Nat.mod_add_mod _ _ _).symm
 rw [e1, e2] at h
 have h3 := Nat.mod_lt (hmN d) h0
 have m1 : ∀ v, v < A.length → (hmN d % A.length + v) % A.length = if hmN d % A.length + v < A.length then hmN d % A.length + v else hmN d % A.length + v - A.length := fun v hv => by
  split
  ·rename_i hh; exact Nat.mod_eq_of_lt hh
  ·rename_i hh
   rw [Nat.mod_eq_sub_mod (by omega), Nat.mod_eq_of_lt (by omega)]
 rw [m1 u h1, m1 u' h2] at h
 split at h <;> split at h <;> omega
theorem free_of_lt {A : Sg α} (h : (cont A).length < A.length) : ∃ p, p < A.length ∧ atS A p = none := by
 induction A with
 | nil => exact absurd h (by simp [cont])
 | cons a B ih =>
   cases a with
   | none => exact ⟨0, by simp, rfl⟩
   | some x =>
     rw [cont_some] at h
     obtain ⟨p, h1, h2⟩ := ih (by simpa using h)
     exact ⟨p + 1, by simpa using h1, by unfold atS at h2 ⊢; rw [List.getElem?_cons_succ]; exact h2⟩
/-- the loop ends -/
theorem Pre.lt {A : Sg α} {d : List Int} {t : Nat} (h : Pre A d t) (hf : (cont A).length < A.length) : t < A.length := by
 obtain ⟨p, h1, h2⟩ := free_of_lt hf
 obtain ⟨u, h3, h4⟩ := posN_all d h1
 rcases Nat.lt_or_ge u t with h5 | h5
 ·obtain ⟨x, hx, _⟩ := h u h5
  rw [h4, h2] at hx
  cases hx
 ·omega
theorem Pre.none {A : Sg α} {d : List Int} {t : Nat} (hI : Inv A) (h : Pre A d t) (hn : atS A (posN A d t) = none) : getN (cont A) d = none := by
 rw [getN_none]
 rintro x hx rfl
 obtain ⟨p, hp⟩ := mem_cont.1 hx
 obtain ⟨u, h1, h2, h3⟩ := hI p x hp
 rcases Nat.lt_trichotomy u t with h4 | h4 | h4
 ·obtain ⟨y, hy, hd⟩ := h u h4
  rw [← h2, hp] at hy
  cases hy
  exact hd rfl
 ·subst h4
  rw [← h2, hp] at hn
  cases hn
 ·have := h3 t h4
  rw [hn] at this
  cases this
theorem at_get {A : Sg α} (hu : Uniq (cont A)) {p : Nat} {x : Pg α} (h : atS A p = some x) : getN (cont A) x.dg = some x.v := getN_mem hu (mem_cont.2 ⟨p, h⟩)
theorem posN_set (A : Sg α) (p : Nat) (a : Option (Pg α)) (d : List Int) (t : Nat) : posN (A.set p a) d t = posN A d t := by unfold posN; rw [List.length_set]
/-- a pair set at a slot where one may stand keeps the order -/
theorem Inv.set {A : Sg α} {d : List Int} {t : Nat} (hI : Inv A) (h : Pre A d t) (ht : t < A.length) (v : α) (hx : ∀ y, atS A (posN A d t) = some y → y.dg = d) : Inv (A.set (posN A d t) (some ⟨d, v⟩)) := by
 have hp : posN A d t < A.length := posN_lt (by omega) d t
 have hfull : ∀ q, (atS A q).isSome = true → (atS (A.set (posN A d t) (some ⟨d, v⟩)) q).isSome = true := fun q hq => by
  rw [atS_set A hp]
  split
  ·rfl
  ·exact hq
 intro p x hpx
 rw [atS_set A hp] at hpx
 by_cases hc : p = posN A d t
 ·rw [if_pos hc] at hpx
  cases hpx
  refine ⟨t, by rw [List.length_set]; exact ht, by rw [posN_set]; exact hc, fun u' hu' => ?_⟩
  obtain ⟨y, hy, _⟩ := h u' hu'
  rw [posN_set]
  apply hfull
  show (atS A (posN A d u')).isSome = true
  rw [hy]
  rfl
 ·rw [if_neg hc] at hpx
  obtain ⟨u, h1, h2, h3⟩ := hI p x hpx
  exact ⟨u, by rw [List.length_set]; exact h1, by rw [posN_set]; exact h2, fun u' hu' => by rw [posN_set]; exact hfull _ (h3 u' hu')⟩
theorem cont_put_new {A : Sg α} {p : Nat} (hp : p < A.length) (hn : atS A p = none) (x : Pg α) : (cont (A.set p (some x))).Perm (x :: cont A) := by
 have h1 := cont_set hp x
 rw [show A.set p none = A by rw [← hn]; exact set_same hp] at h1
 exact h1
theorem cut_of_cons {L : List (Pg α)} {x : Pg α} (hu : Uniq (x :: L)) : cutN (x :: L) x.dg = L := by
 unfold cutN
 rw [List.filter_cons_of_neg (by simp), List.filter_eq_self]
 intro y hy
 unfold Uniq keysN at hu
 rw [List.map_cons, List.nodup_cons] at hu
 exact decide_eq_true fun e => hu.1 (by rw [← e]; exact List.mem_map_of_mem hy)
/-- Put at its slot -/
theorem cont_put {A : Sg α} {d : List Int} {p : Nat} (hp : p < A.length) (hu : Uniq (cont A)) (h : atS A p = none ∧ getN (cont A) d = none ∨ ∃ y, atS A p = some y ∧ y.dg = d) (v : α) : (cont (A.set p (some ⟨d, v⟩))).Perm (putN (cont A) d v) := by
 unfold putN
 rcases h with ⟨h1, h2⟩ | ⟨y, h1, h2⟩
 ·rw [cutN_none h2]
  exact (cont_put_new hp h1 _).trans (List.perm_append_singleton _ _).symm
 ·subst h2
  refine (cont_set hp _).trans ?_
  refine List.Perm.trans ?_ (List.perm_append_singleton _ _).symm
  refine List.Perm.cons _ ?_
  have h3 := cutN_perm (cont_at h1) y.dg
  rw [cut_of_cons (uniq_perm (cont_at h1) hu)] at h3
  exact h3.symm
/-- Cut's slot emptied -/
theorem cont_cut {A : Sg α} {p : Nat} {y : Pg α} (hu : Uniq (cont A)) (h1 : atS A p = some y) : (cont (A.set p none)).Perm (cutN (cont A) y.dg) := by
 have h3 := cutN_perm (cont_at h1) y.dg
 rw [cut_of_cons (uniq_perm (cont_at h1) hu)] at h3
 exact h3.symm
theorem cont_fresh (n : Nat) : cont (List.replicate n (none : Option (Pg α))) = [] := by
 induction n with
 | zero => rfl
 | succ n ih => rw [List.replicate_succ, cont_none]; exact ih
theorem inv_fresh (n : Nat) : Inv (List.replicate n (none : Option (Pg α))) := fun p x h => by
 have : x ∈ cont (List.replicate n (none : Option (Pg α))) := mem_cont.2 ⟨p, h⟩
 rw [cont_fresh] at this
 cases this
/-- old slots put anew, one more -/
theorem cont_take_succ {A : Sg α} {p : Nat} (hp : p < A.length) : cont (A.take (p + 1)) = cont (A.take p) ++ (match atS A p with | some x => [x] | none => []) := by
 have h1 : A[p]? = some (atS A p) := atS_get hp
 rw [List.take_add_one, h1, cont_append]
 cases atS A p <;> rfl
theorem cont_take_le (A : Sg α) (p : Nat) : (cont (A.take p)).length ≤ (cont A).length := by
 conv => rhs; rw [← List.take_append_drop p A, cont_append, List.length_append]
 omega
theorem cont_take_uniq {A : Sg α} (hu : Uniq (cont A)) (p : Nat) : Uniq (cont (A.take p)) := by
 rw [← List.take_append_drop p A, cont_append] at hu
 unfold Uniq keysN at hu ⊢
 rw [List.map_append] at hu
 exact (List.nodup_append.1 hu).1
/-- what is still to come isn't there yet -/
theorem cont_take_new {A : Sg α} (hu : Uniq (cont A)) {p : Nat} {x : Pg α} (h : atS A p = some x) : getN (cont (A.take p)) x.dg = none := by
 have h1 := cont_take_uniq hu (p + 1)
 rw [cont_take_succ (atS_lt h), h] at h1
 unfold Uniq keysN at h1
 rw [List.map_append, List.nodup_append] at h1
 rw [getN_none]
 intro y hy e
 exact h1.2.2 _ (List.mem_map_of_mem hy) x.dg (by simp) e
/-- one pair put into the new slots -/
theorem grow_step {A B : Sg α} {p t : Nat} {x : Pg α} (hu : Uniq (cont A)) (hp : atS A p = some x) (hB : Inv B) (hc : (cont B).Perm (cont (A.take p))) (hP : Pre B x.dg t) (ht : t < B.length) (hn : atS B (posN B x.dg t) = none) :
 Inv (B.set (posN B x.dg t) (some x)) ∧ (cont (B.set (posN B x.dg t) (some x))).Perm (cont (A.take (p + 1))) := by
 refine ⟨hB.set hP ht x.v (fun y hy => by rw [hn] at hy; cases hy), ?_⟩
 rw [cont_take_succ (atS_lt hp), hp]
 exact (cont_put_new (posN_lt (by omega) _ _) hn x).trans ((hc.cons x).trans (List.perm_append_singleton _ _).symm)
theorem grow_skip {A : Sg α} {p : Nat} (hp : p < A.length) (h : atS A p = none) : cont (A.take (p + 1)) = cont (A.take p) := by
 rw [cont_take_succ hp, h, List.append_nil]
/-- no loop meets an equal digest there -/
theorem grow_no {A B : Sg α} {p q : Nat} {x y : Pg α} (hu : Uniq (cont A)) (hp : atS A p = some x) (hc : (cont B).Perm (cont (A.take p))) (hy : atS B q = some y) : y.dg ≠ x.dg := by
 have h1 := cont_take_new hu hp
 rw [getN_none] at h1
 exact h1 y (hc.mem_iff.1 (mem_cont.2 ⟨q, hy⟩))
/-! Cut: slot b is emptied, then the slots behind it are seen one by one up to the first free one, offset k0. -/
def ofs (A : Sg α) (b k : Nat) : Nat := (b + k) % A.length
theorem ofs_lt {A : Sg α} (h : 0 < A.length) (b k : Nat) : ofs A b k < A.length := Nat.mod_lt _ h
theorem ofs_succ (A : Sg α) (b k : Nat) : ofs A b (k + 1) = (ofs A b k + 1) % A.length := by
 unfold ofs
 rw [Nat.mod_add_mod, Nat.add_assoc]
theorem ofs_zero {A : Sg α} {b : Nat} (h : b < A.length) : ofs A b 0 = b := by unfold ofs; rw [Nat.add_zero, Nat.mod_eq_of_lt h]
theorem ofs_all {A : Sg α} (b : Nat) {p : Nat} (hp : p < A.length) : ∃ k, k < A.length ∧ ofs A b k = p := by
 have h0 : 0 < A.length := by omega
 refine ⟨(p + (A.length - b % A.length)) % A.length, Nat.mod_lt _ h0, ?_⟩
 unfold ofs
 have h1 := Nat.mod_lt b h0
 rw [Nat.add_mod_mod, ← Nat.mod_add_mod, show b % A.length + (p + (A.length - b % A.length)) = p + A.length by omega, Nat.add_mod_right, Nat.mod_eq_of_lt hp]
theorem mod_two {n a : Nat} (h : a < 2 * n) : a % n = if a < n then a else a - n := by
 split
 ·rename_i hh; exact Nat.mod_eq_of_lt hh
 ·rename_i hh
  rw [Nat.mod_eq_sub_mod (by omega), Nat.mod_eq_of_lt (by omega)]
theorem ofs_inj {A : Sg α} {b k k' : Nat} (h1 : k < A.length) (h2 : k' < A.length) (h : ofs A b k = ofs A b k') : k = k' := by
 unfold ofs at h
 have h0 : 0 < A.length := by omega
 have h3 := Nat.mod_lt b h0
 have m1 : (b + k) % A.length = (b % A.length + k) % A.length := (Nat.mod_add_mod _ _ _).symm
 have m2 : (b + k') % A.length = (b % A.length + k') % A.length := (Nat.mod_add_mod _ _ _).symm
 rw [m1, m2, mod_two (a := b % A.length + k) (by omega), mod_two (a := b % A.length + k') (by omega)] at h
 split at h <;> split at h <;> omega
/-- a way from one slot to another goes over those between -/
theorem pos_ofs {A : Sg α} {d : List Int} {b u k : Nat} (h : posN A d u = ofs A b k) (j : Nat) : posN A d (u + j) = ofs A b (k + j) := by
 unfold posN ofs at h ⊢
 rw [← Nat.add_assoc, ← Nat.mod_add_mod, h, Nat.mod_add_mod, Nat.add_assoc]
/-- offsets below k are seen: whoever stands behind may need those that are free now -/
structure InvK (A : Sg α) (b k k0 : Nat) : Prop where
 lt0 : k0 < A.length
 kk : k ≤ k0
 free : atS A (ofs A b k0) = none
 way : ∀ p x, atS A p = some x → ∃ u, u < A.length ∧ p = posN A x.dg u ∧ ∀ u', u' < u → (atS A (posN A x.dg u')).isSome = true ∨ (∃ k', k' < k ∧ posN A x.dg u' = ofs A b k') ∧ ∃ kp, k ≤ kp ∧ kp < A.length ∧ p = ofs A b kp
/-- no way goes over the free slot at k0 -/
theorem way_no {A : Sg α} {b k0 kp k' u u' : Nat} {d : List Int} (hk0 : k0 < A.length) (hu : u < A.length) (hlt : u' < u) (h1 : posN A d u' = ofs A b k') (h2 : posN A d u = ofs A b kp) (hk' : k' ≤ k0) (hkp : kp < A.length) (hc : kp < k' ∨ k0 < kp) :
 ∃ v, u' ≤ v ∧ v < u ∧ posN A d v = ofs A b k0 := by
 have h3 := pos_ofs h1 (u - u')
 rw [show u' + (u - u') = u by omega, h2] at h3
 refine ⟨u' + (k0 - k'), by omega, ?_, by rw [pos_ofs h1, show k' + (k0 - k') = k0 by omega]⟩
 have h0 : 0 < A.length := by omega
 -- kp = k' + (u - u') modulo the length
 rcases Nat.lt_or_ge (k' + (u - u')) A.length with h4 | h4
 ·have := ofs_inj hkp h4 h3
  omega
 ·have h5 : ofs A b (k' + (u - u')) = ofs A b (k' + (u - u') - A.length) := by
   unfold ofs
   rw [show b + (k' + (u - u')) = b + (k' + (u - u') - A.length) + A.length by omega, Nat.add_mod_right]
  rw [h5] at h3
  have := ofs_inj hkp (by omega) h3
  omega
theorem ofs_set (A : Sg α) (p : Nat) (a : Option (Pg α)) (b k : Nat) : ofs (A.set p a) b k = ofs A b k := by unfold ofs; rw [List.length_set]
theorem InvK.start {A : Sg α} {b : Nat} {x : Pg α} (hI : Inv A) (hb : atS A b = some x) (hf : (cont A).length < A.length) : ∃ k0, InvK (A.set b none) b 1 k0 := by
 obtain ⟨p, h1, h2⟩ := free_of_lt hf
 obtain ⟨k0, h3, h4⟩ := ofs_all b h1
 have hbl := atS_lt hb
 have hpb : p ≠ b := fun e => by rw [e, hb] at h2; cases h2
 have hk0 : k0 ≠ 0 := fun e => by rw [e, ofs_zero hbl] at h4; exact hpb h4.symm
 refine ⟨k0, by rw [List.length_set]; exact h3, by omega, by rw [ofs_set, h4, atS_set A hbl, if_neg hpb]; exact h2, fun q y hq => ?_⟩
 rw [atS_set A hbl] at hq
 by_cases hc : q = b
 ·rw [if_pos hc] at hq; cases hq
 ·rw [if_neg hc] at hq
  obtain ⟨u, g1, g2, g3⟩ := hI q y hq
  refine ⟨u, by rw [List.length_set]; exact g1, by rw [posN_set]; exact g2, fun u' hu' => ?_⟩
  rw [posN_set]
  by_cases hc2 : posN A y.dg u' = b
  ·right
   refine ⟨⟨0, by omega, by rw [ofs_set, ofs_zero hbl]; exact hc2⟩, ?_⟩
   obtain ⟨kp, e1, e2⟩ := ofs_all b (atS_lt hq)
   refine ⟨kp, ?_, by rw [List.length_set]; exact e1, by rw [ofs_set]; exact e2.symm⟩
   rcases Nat.eq_zero_or_pos kp with e | e
   ·rw [e, ofs_zero hbl] at e2; exact absurd e2.symm hc
   ·exact e
  ·left
   rw [atS_set A hbl, if_neg hc2]
   exact g3 u' hu'
theorem InvK.done {A : Sg α} {b k k0 : Nat} (h : InvK A b k k0) (hn : k = k0) : Inv A := fun p x hp => by
 subst hn
 obtain ⟨u, g1, g2, g3⟩ := h.way p x hp
 refine ⟨u, g1, g2, fun u' hu' => ?_⟩
 rcases g3 u' hu' with e | ⟨⟨k', e1, e2⟩, kp, e3, e4, e5⟩
 ·exact e
 ·exfalso
  have hne : kp ≠ k := fun e => by rw [e5, e, h.free] at hp; cases hp
  obtain ⟨v, v1, v2, v3⟩ := way_no h.lt0 g1 hu' e2 (by rw [← g2]; exact e5) (by omega) e4 (Or.inr (by omega))
  rcases g3 v v2 with f | ⟨⟨k'', f1, f2⟩, _⟩
  ·rw [v3, h.free] at f; cases f
  ·rw [v3] at f2
   have := ofs_inj h.lt0 (by have := h.lt0; omega) f2
   omega
/-- slot k stays: all of its way is full -/
theorem InvK.keep {A : Sg α} {b k k0 u : Nat} {x : Pg α} (h : InvK A b k k0) (hx : atS A (ofs A b k) = some x) (hu : u < A.length) (hp : ofs A b k = posN A x.dg u) (hw : ∀ u', u' < u → (atS A (posN A x.dg u')).isSome = true) : InvK A b (k + 1) k0 := by
 have hne : k ≠ k0 := fun e => by rw [e, h.free] at hx; cases hx
 refine ⟨h.lt0, by have := h.kk; omega, h.free, fun q y hq => ?_⟩
 by_cases hc : q = ofs A b k
 ·subst hc
  rw [hx] at hq
  cases hq
  exact ⟨u, hu, hp, fun u' hu' => Or.inl (hw u' hu')⟩
 ·obtain ⟨v, g1, g2, g3⟩ := h.way q y hq
  refine ⟨v, g1, g2, fun u' hu' => ?_⟩
  rcases g3 u' hu' with e | ⟨⟨k', e1, e2⟩, kp, e3, e4, e5⟩
  ·exact Or.inl e
  ·refine Or.inr ⟨⟨k', by omega, e2⟩, kp, ?_, e4, e5⟩
   rcases Nat.lt_or_ge k kp with e | e
   ·exact e
   ·exact absurd (by rw [e5, show kp = k by omega]) hc
/-- slot k's pair stands nearer: at the first free slot of its way -/
theorem InvK.move {A : Sg α} {b k k0 t : Nat} {x : Pg α} (h : InvK A b k k0) (hx : atS A (ofs A b k) = some x) (ht : t < A.length)
 (hw : ∀ u', u' < t → (atS (A.set (ofs A b k) none) (posN A x.dg u')).isSome = true) (hn : atS (A.set (ofs A b k) none) (posN A x.dg t) = none) :
 InvK ((A.set (ofs A b k) none).set (posN A x.dg t) (some x)) b (k + 1) k0 := by
 have h0 : 0 < A.length := by omega
 have hne : k ≠ k0 := fun e => by rw [e, h.free] at hx; cases hx
 have hkk := h.kk
 have hk0 := h.lt0
 have hql : ofs A b k < A.length := ofs_lt h0 b k
 have hrl : posN A x.dg t < (A.set (ofs A b k) none).length := by rw [List.length_set]; exact posN_lt h0 _ _
 have e1 : ∀ q, atS (A.set (ofs A b k) none) q = if q = ofs A b k then none else atS A q := atS_set A hql none
 have e2 : ∀ q, atS ((A.set (ofs A b k) none).set (posN A x.dg t) (some x)) q = if q = posN A x.dg t then some x else if q = ofs A b k then none else atS A q := fun q => by
  rw [atS_set _ hrl, e1]
 have el : ((A.set (ofs A b k) none).set (posN A x.dg t) (some x)).length = A.length := by rw [List.length_set, List.length_set]
 have ep : ∀ d u, posN ((A.set (ofs A b k) none).set (posN A x.dg t) (some x)) d u = posN A d u := fun d u => by rw [posN_set, posN_set]
 have eo : ∀ j, ofs ((A.set (ofs A b k) none).set (posN A x.dg t) (some x)) b j = ofs A b j := fun j => by rw [ofs_set, ofs_set]
 obtain ⟨ux, ux1, ux2, ux3⟩ := h.way _ x hx
 have htu : t ≤ ux := by
  rcases Nat.lt_or_ge ux t with e | e
  ·have := hw ux e
   rw [e1, if_pos ux2.symm] at this
   cases this
  ·exact e
 -- the slot where it stands isn't the free one at k0
 have hr0 : posN A x.dg t ≠ ofs A b k0 := fun e => by
  have hlt : t < ux := by
   rcases Nat.lt_or_ge t ux with f | f
   ·exact f
   ·have f2 : t = ux := by omega
    rw [f2, ← ux2] at e
    exact absurd (ofs_inj (by omega) hk0 e) hne
  rcases ux3 t hlt with f | ⟨⟨k', f1, f2⟩, _⟩
  ·rw [e, h.free] at f; cases f
  ·rw [e] at f2
   have := ofs_inj hk0 (by omega) f2
   omega
 have hk0q : ofs A b k0 ≠ ofs A b k := fun e => hne (ofs_inj (by omega) hk0 e.symm)
 refine ⟨by rw [el]; exact hk0, by omega, by rw [eo, e2, if_neg (fun e => hr0 e.symm), if_neg hk0q]; exact h.free, fun q y hq => ?_⟩
 rw [e2] at hq
 by_cases hc : q = posN A x.dg t
 ·rw [if_pos hc] at hq
  cases hq
  refine ⟨t, by rw [el]; exact ht, by rw [ep]; exact hc, fun u' hu' => Or.inl ?_⟩
  rw [ep, e2]
  split
  ·rfl
  ·have := hw u' hu'
   rw [e1] at this
   exact this
 ·rw [if_neg hc] at hq
  by_cases hc2 : q = ofs A b k
  ·rw [if_pos hc2] at hq; cases hq
  ·rw [if_neg hc2] at hq
   obtain ⟨v, g1, g2, g3⟩ := h.way q y hq
   obtain ⟨kp, c1, c2⟩ := ofs_all b (atS_lt hq)
   have hkpk : kp ≠ k := fun e => hc2 (by rw [← c2, e])
   refine ⟨v, by rw [el]; exact g1, by rw [ep]; exact g2, fun u' hu' => ?_⟩
   rw [ep, e2]
   by_cases hc3 : posN A y.dg u' = posN A x.dg t
   ·left; rw [if_pos hc3]; rfl
   ·rw [if_neg hc3]
    by_cases hc4 : posN A y.dg u' = ofs A b k
    ·right
     refine ⟨⟨k, by omega, by rw [eo]; exact hc4⟩, kp, ?_, by rw [el]; exact c1, by rw [eo]; exact c2.symm⟩
     rcases Nat.lt_or_ge k kp with f | f
     ·exact f
     ·exfalso
      obtain ⟨w, w1, w2, w3⟩ := way_no hk0 g1 hu' hc4 (by rw [← g2]; exact c2.symm) hkk c1 (Or.inl (by omega))
      rcases g3 w w2 with f1 | ⟨⟨k'', f1, f2⟩, _⟩
      ·rw [w3, h.free] at f1; cases f1
      ·rw [w3] at f2
       have := ofs_inj hk0 (by omega) f2
       omega
    ·rw [if_neg hc4]
     rcases g3 u' hu' with f | ⟨⟨k', f1, f2⟩, kq, f3, f4, f5⟩
     ·exact Or.inl f
     ·refine Or.inr ⟨⟨k', by omega, by rw [eo]; exact f2⟩, kq, ?_, by rw [el]; exact f4, by rw [eo]; exact f5⟩
      have : kq = kp := ofs_inj f4 c1 (by rw [← f5, c2])
      omega
theorem cont_move {A : Sg α} {q r : Nat} {x : Pg α} (hx : atS A q = some x) (hr : r < A.length) (hn : atS (A.set q none) r = none) : (cont ((A.set q none).set r (some x))).Perm (cont A) :=
 (cont_put_new (by rw [List.length_set]; exact hr) hn x).trans (cont_at hx).symm
/-! Cut by moving the hole: of the offsets seen, only h is free. -/
theorem ofs_back {A : Sg α} {d : List Int} {b u k j : Nat} (h : posN A d u = ofs A b k) (hk : k < A.length) (hj : j ≤ u) (hjk : j ≤ k) : posN A d (u - j) = ofs A b (k - j) := by
 obtain ⟨k1, h1, h2⟩ := ofs_all (A := A) b (posN_lt (by omega) d (u - j))
 have h3 := pos_ofs h2.symm j
 rw [show u - j + j = u by omega, h] at h3
 rcases Nat.lt_or_ge (k1 + j) A.length with h4 | h4
 ·have := ofs_inj hk h4 h3
  rw [← h2, show k1 = k - j by omega]
 ·have h5 : ofs A b (k1 + j) = ofs A b (k1 + j - A.length) := by
   unfold ofs
   rw [show b + (k1 + j) = b + (k1 + j - A.length) + A.length by omega, Nat.add_mod_right]
  rw [h5] at h3
  have := ofs_inj hk (by omega) h3
  omega
structure InvH (A : Sg α) (b h k k0 : Nat) : Prop where
 iv : InvK A b k k0
 hk : h < k
 hole : atS A (ofs A b h) = none
 full : ∀ k', k' < k → k' ≠ h → (atS A (ofs A b k')).isSome = true
theorem InvH.start {A : Sg α} {b k0 : Nat} (hb : b < A.length) (h : InvK (A.set b none) b 1 k0) : InvH (A.set b none) b 0 1 k0 :=
 ⟨h, by omega, by rw [ofs_set, ofs_zero hb, atS_set A hb, if_pos rfl], fun k' h1 h2 => by omega⟩
/-- the pair at k stays: its own slot lies behind the hole -/
theorem InvH.keep {A : Sg α} {b h k k0 u : Nat} {x : Pg α} (H : InvH A b h k k0) (hx : atS A (ofs A b k) = some x) (hu : u < A.length) (hp : ofs A b k = posN A x.dg u) (hd : u < k - h) : InvH A b h (k + 1) k0 := by
 have hlt := H.iv.lt0
 have hkk := H.iv.kk
 refine ⟨H.iv.keep hx hu hp (fun u' hu' => ?_), by have := H.hk; omega, H.hole, fun k' h1 h2 => ?_⟩
 ·have h3 := ofs_back (j := u - u') hp.symm (by omega) (by omega) (by omega)
  rw [show u - (u - u') = u' by omega] at h3
  rw [h3]
  exact H.full _ (by omega) (by omega)
 ·rcases Nat.lt_or_ge k' k with h3 | h3
  ·exact H.full _ h3 h2
  ·rw [show k' = k by omega, hx]; rfl
/-- the pair at k fills the hole: its own slot lies at the hole or ahead of it -/
theorem InvH.move {A : Sg α} {b h k k0 u : Nat} {x : Pg α} (H : InvH A b h k k0) (hx : atS A (ofs A b k) = some x) (hu : u < A.length) (hp : ofs A b k = posN A x.dg u) (hd : k - h ≤ u) :
 InvH ((A.set (ofs A b k) none).set (ofs A b h) (some x)) b k (k + 1) k0 := by
 have hlt := H.iv.lt0
 have hkk := H.iv.kk
 have hhk := H.hk
 have h0 : 0 < A.length := by omega
 have hql : ofs A b k < A.length := ofs_lt h0 b k
 have hne : k ≠ k0 := fun e => by rw [e, H.iv.free] at hx; cases hx
 have hqh : ofs A b h ≠ ofs A b k := fun e => by have := ofs_inj (by omega) (by omega) e; omega
 have e1 : ∀ q, atS (A.set (ofs A b k) none) q = if q = ofs A b k then none else atS A q := atS_set A hql none
 have ht := ofs_back (j := k - h) hp.symm (by omega) hd (by omega)
 rw [show k - (k - h) = h by omega] at ht
 have hw : ∀ u', u' < u - (k - h) → (atS (A.set (ofs A b k) none) (posN A x.dg u')).isSome = true := fun u' hu' => by
  have hn1 : posN A x.dg u' ≠ ofs A b k := fun e => by
   rw [hp] at e
   have := posN_inj (by omega) hu e
   omega
  rw [e1, if_neg hn1]
  obtain ⟨v, g1, g2, g3⟩ := H.iv.way _ x hx
  obtain rfl : v = u := posN_inj g1 hu (by rw [← g2, hp])
  rcases g3 u' (by omega) with f | ⟨⟨k', f1, f2⟩, _⟩
  ·exact f
  ·have hkh : k' ≠ h := fun e => by
    rw [e, ← ht] at f2
    have := posN_inj (by omega) (by omega) f2
    omega
   rw [f2]
   exact H.full k' f1 hkh
 have hm := H.iv.move (t := u - (k - h)) hx (by omega) hw (by rw [ht, e1, if_neg hqh]; exact H.hole)
 rw [ht] at hm
 have hrl : ofs A b h < (A.set (ofs A b k) none).length := by rw [List.length_set]; exact ofs_lt h0 b h
 refine ⟨hm, by omega, ?_, fun k' h1 h2 => ?_⟩
 ·rw [ofs_set, ofs_set, atS_set _ hrl, if_neg (fun e => hqh e.symm), e1, if_pos rfl]
 ·rw [ofs_set, ofs_set, atS_set _ hrl]
  split
  ·rfl
  ·rename_i hc
   have hk' : k' < k := by omega
   rw [e1, if_neg (fun e => by have := ofs_inj (by omega) (by omega) e; omega)]
   exact H.full k' hk' (fun e => hc (by rw [e]))
/-- how far from a digest's own slot -/
theorem dist_own {A : Sg α} {d : List Int} {u p : Nat} (hu : u < A.length) (h : p = posN A d u) : u = (p + (A.length - hmN d % A.length)) % A.length := by
 subst h
 have h0 : 0 < A.length := by omega
 have h1 := Nat.mod_lt (hmN d) h0
 unfold posN
 rw [Nat.mod_add_mod, Nat.add_assoc, ← Nat.mod_add_mod, show hmN d % A.length + (u + (A.length - hmN d % A.length)) = u + A.length by omega, Nat.add_mod_right, Nat.mod_eq_of_lt hu]
theorem dist_ofs {A : Sg α} {b h k : Nat} (hk : k < A.length) (hh : h ≤ k) : k - h = (ofs A b k + (A.length - ofs A b h)) % A.length := by
 have h0 : 0 < A.length := by omega
 have h1 := ofs_lt h0 b h
 have h2 : ofs A b k = (ofs A b h + (k - h)) % A.length := by
  unfold ofs
  rw [Nat.mod_add_mod, show b + h + (k - h) = b + k by omega]
 rw [h2, Nat.mod_add_mod, show ofs A b h + (k - h) + (A.length - ofs A b h) = k - h + A.length by omega, Nat.add_mod_right, Nat.mod_eq_of_lt (by omega)]
theorem drow_perm {L M : List (Pg α)} (h : L.Perm M) (hL : ∀ x ∈ L, x.dg.length = 32) : drow (keysN L) = drow (keysN M) := by
 have hk : (keysN L).Perm (keysN M) := List.Perm.map (fun x : Pg α => x.dg) h
 have h1 : ∀ x ∈ keysN L, x.length = 32 := fun x hx => by
  obtain ⟨y, hy, rfl⟩ := List.mem_map.1 hx
  exact hL y hy
 have h2 : ∀ x ∈ keysN M, x.length = 32 := fun x hx => h1 x (hk.mem_iff.2 hx)
 exact drow_is h2 (drow_rises h1) (fun x => by rw [drow_mem]; exact hk.mem_iff)
end Tg
end Go.Proofs.YtpfbfhigelbfcaaGreat

