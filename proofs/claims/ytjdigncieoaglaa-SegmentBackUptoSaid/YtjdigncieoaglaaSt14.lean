/- Rows of records, rows of words, in memory; Rows of rows of records, as they lie -/
import Derived.Test.YtjdigncieoaglaaSt11
import Derived.Test.YtjdigncieoaglaaSt13
set_option linter.unusedSimpArgs false
set_option linter.unusedVariables false
namespace Go.Proofs.Ytjdigncieoaglaa
set_option linter.unusedVariables false
open Go.RowKit Go.Lib

/-- a record whose digest has 32 bytes -/
abbrev Rx := { x : Rq // x.dg.length = 32 }
theorem mixL_one {a z : List Value} {dg : List Int} (ha : ∀ v ∈ a, v.oneCell' = true) (hz : ∀ v ∈ z, v.oneCell' = true) : ∀ v ∈ mixL a dg z, v.oneCell' = true := fun v hv => by
  unfold mixL at hv
  rcases List.mem_append.1 hv with h | h
  · exact ha v h
  · rcases List.mem_append.1 h with h | h
    · obtain ⟨x, _, rfl⟩ := List.mem_map.1 h
      rfl
    · exact hz v h
def encRc : Ec Rx where
  f := fun x => mixL x.1.a x.1.dg x.1.z
  k := 38
  t := 29
  d := ⟨rq0, rfl⟩
  len := fun x => by rw [mixL_length, x.2]; rfl
  one := fun x => mixL_one (by simp [Rq.a, Value.oneCell']) (by simp [Rq.z, Value.oneCell'])
  pos := by decide
/-- a word whose digest has 32 bytes -/
abbrev Wx := { x : Wq // x.dg.length = 32 }
def encWd : Ec Wx where
  f := fun x => mixL x.1.a x.1.dg x.1.t
  k := 39
  t := 50
  d := ⟨wq0, rfl⟩
  len := fun x => by rw [mixL_length, x.2]; rfl
  one := fun x => mixL_one (by simp [Wq.a, Value.oneCell']) (by simp [Wq.t, Value.oneCell'])
  pos := by decide
/-- the records that a row holds -/
def rcL (L : List Rx) : List Rc := L.map fun x => x.1.rc
theorem rcL_length (L : List Rx) : (rcL L).length = L.length := List.length_map _
/-- one of a row of records -/
theorem Gs.rec {W : World} {p : Option Addr} {n : Nat} {L : List Rx} (h : Gs encRc W p n L) (j : Nat) (hj : j < n) :
    ∃ b off x, p = some ⟨b, off, none⟩ ∧ L[j]? = some x ∧ (rcL L)[j]? = some x.1.rc ∧ x ∈ L ∧ W.cell? ⟨b, off + j * 38, none⟩ = some (.int .i64 x.1.k) ∧ W.rangeAt b (off + j * 38) (mixL x.1.a x.1.dg x.1.z) := by
  obtain ⟨b, off, hp, hc⟩ := h.ptr j hj
  have hl := h.len
  have hx : L[j]? = some (L[j]'(by omega)) := List.getElem?_eq_getElem _
  have e : L.getD j encRc.d = L[j]'(by omega) := by rw [List.getD_eq_getElem?_getD, hx]; rfl
  rw [e] at hc
  refine ⟨b, off, _, hp, hx, by unfold rcL; rw [List.getElem?_map, hx]; rfl, List.getElem_mem _, ?_, fun i v hv => hc i v hv⟩
  exact hc 0 (.int .i64 (L[j]'(by omega)).1.k) rfl
theorem Gs.recAt {W : World} {b off n : Nat} {L : List Rx} (h : Gs encRc W (some ⟨b, off, none⟩) n L) (j : Nat) (hj : j < n) :
    ∃ x, L[j]? = some x ∧ (rcL L)[j]? = some x.1.rc ∧ x ∈ L ∧ W.cell? ⟨b, off + j * 38, none⟩ = some (.int .i64 x.1.k) ∧ W.rangeAt b (off + j * 38) (mixL x.1.a x.1.dg x.1.z) := by
  obtain ⟨b', off', x, hp, h1, h2, h3, h4, h5⟩ := h.rec j hj
  simp only [Option.some.injEq, Addr.mk.injEq, and_true] at hp
  obtain ⟨rfl, rfl⟩ := hp
  exact ⟨x, h1, h2, h3, h4, h5⟩
theorem range_later {W V : World} {b o : Nat} {cs : List Value} (h : W.rangeAt b o cs) (hb : Below W.heap.size W V) : V.rangeAt b o cs := fun i v hv => by
  have h4 := h i v hv
  rw [hb.cell (World.block_lt_of_cell? W _ h4)]
  exact h4
theorem rec_load {W : World} {b o : Nat} {x : Rx} (h : W.rangeAt b o (mixL x.1.a x.1.dg x.1.z)) : (Instr.loadAt 29 (.pointer (some ⟨b, o, none⟩))).run Try.prog W = .ok (.agg (mixC x.1.a x.1.dg x.1.z)) W :=
  run_loadAt_mid W b o 29 _ _ h Try.underlying29 rfl (by rw [mixL_length, x.2]; exact size38)
theorem kindsN_at {l : List Rc} {j : Nat} {r : Rc} (hr : l[j]? = some r) (h : r.k < 1 ∨ r.k > 5) : l.all (fun r => decide (1 ≤ r.k ∧ r.k ≤ 5)) = false := by
  rw [List.all_eq_false]
  exact ⟨r, List.mem_of_getElem? hr, by simp; omega⟩
theorem rcL_ok {L : List Rx} {w : World} (h : ∀ x ∈ L, x.1.Fit w) : ∀ r ∈ rcL L, r.Ok := fun r hr => by
  obtain ⟨x, hx, rfl⟩ := List.mem_map.1 hr
  exact (h x hx).ok
end Go.Proofs.Ytjdigncieoaglaa

namespace Go.Proofs.Ytjdigncieoaglaa
set_option linter.unusedVariables false
open Go.RowKit Go.Lib

/-- a slice of records, and what it reads as -/
structure Rr where
  p : Option Addr
  n : Nat
  c : Nat
  L : List Rx
structure Rr.Fit (x : Rr) (w : World) : Prop where
  gs : Gs encRc w x.p x.n x.L
  pc : x.p = none → x.c = 0
  nc : x.n ≤ x.c
  rcs : ∀ y ∈ x.L, y.1.Fit w ∧ y.1.n ≤ 1048576
  len : x.n ≤ 1048576
  fr : (framesN (rcL x.L) 0).length ≤ 2097216
theorem Rr.Fit.later {x : Rr} {w w' : World} (h : x.Fit w) (hb : Below w.heap.size w w') : x.Fit w' := ⟨h.gs.later hb, h.pc, h.nc, fun y hy => ⟨(h.rcs y hy).1.later hb, (h.rcs y hy).2⟩, h.len, h.fr⟩
def encRr : Ec Rr where
  f := fun x => [.slice x.p x.n x.c]
  k := 1
  t := 46
  d := ⟨none, 0, 0, []⟩
  len := fun _ => rfl
  one := fun x v hv => by
    rw [List.mem_singleton] at hv
    subst hv
    rfl
  pos := by decide
/-- the records that a row of rows holds -/
def rcLL (LL : List Rr) : List (List Rc) := LL.map fun x => rcL x.L
theorem rcLL_length (LL : List Rr) : (rcLL LL).length = LL.length := List.length_map _
theorem Gs.rr {W : World} {p : Option Addr} {n : Nat} {LL : List Rr} (h : Gs encRr W p n LL) (j : Nat) (hj : j < n) :
    ∃ b off x, p = some ⟨b, off, none⟩ ∧ LL[j]? = some x ∧ (rcLL LL)[j]? = some (rcL x.L) ∧ x ∈ LL ∧ W.cell? ⟨b, off + j, none⟩ = some (.slice x.p x.n x.c) := by
  obtain ⟨b, off, hp, hc⟩ := h.ptr j hj
  have hl := h.len
  have hx : LL[j]? = some (LL[j]'(by omega)) := List.getElem?_eq_getElem _
  have e : LL.getD j encRr.d = LL[j]'(by omega) := by rw [List.getD_eq_getElem?_getD, hx]; rfl
  rw [e] at hc
  refine ⟨b, off, _, hp, hx, by unfold rcLL; rw [List.getElem?_map, hx]; rfl, List.getElem_mem _, ?_⟩
  have h0 := hc 0 (.slice (LL[j]'(by omega)).p (LL[j]'(by omega)).n (LL[j]'(by omega)).c) rfl
  rwa [show encRr.k = 1 from rfl, Nat.mul_one, Nat.add_zero] at h0
theorem Gs.rrAt {W : World} {b off n : Nat} {LL : List Rr} (h : Gs encRr W (some ⟨b, off, none⟩) n LL) (j : Nat) (hj : j < n) :
    ∃ x, LL[j]? = some x ∧ (rcLL LL)[j]? = some (rcL x.L) ∧ x ∈ LL ∧ W.cell? ⟨b, off + j, none⟩ = some (.slice x.p x.n x.c) := by
  obtain ⟨b', off', x, hp, h1, h2, h3, h4⟩ := h.rr j hj
  simp only [Option.some.injEq, Addr.mk.injEq, and_true] at hp
  obtain ⟨rfl, rfl⟩ := hp
  exact ⟨x, h1, h2, h3, h4⟩
end Go.Proofs.Ytjdigncieoaglaa
