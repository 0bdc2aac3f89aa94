/- A function's records: the one that it makes, and the one that it answers; Words as they lie in memory: what a record says; Layer 14: what records are, in memory and plainly: what all its walks want; Plain mathematics of package batch; Plain mathematics of package batch: a batch is read frame by frame, whatever the fuel; Records that are read, plainly; Plain mathematics of package segment, first pa -/
import Derived.Test.YtjdigncieoaglaaSt2
import Derived.Test.YtjdigncieoaglaaSt9
import Derived.Test.YtjdigncieoaglaaSt10
import Derived.Deep.DeepCutAuto
import Derived.Laws.ResultCell
set_option linter.unusedSimpArgs false
set_option linter.unusedVariables false
namespace Go.Proofs.Ytjdigncieoaglaa
set_option linter.unusedVariables false
open Go.RowKit Go.Lib

theorem results_cell_tmp2 {fn : Func} {p u v : Tmp} {ty : TypeId} (h : fn.results = #[.cell p ty, .tmp u, .tmp v]) (tmps : Array Value) (P : Program) (w : World) :
    (results fn tmps).run P w = ((asAddr (tmps.getD p undef)).run P w).andThen fun a w₁ => ((loadVar ty a).run P w₁).andThen fun x w₂ => .ok (.tuple #[x, tmps.getD u undef, tmps.getD v undef]) w₂ := by
  simp only [results, h]
  simp [Sem.run_bind, Result.andThen]
theorem Rm.loadVar {w : World} {g : Nat} {x : Rq} (hg : Rm w g x) (hd : x.dg.length = 32) : (Go.loadVar 29 ⟨g, 0, none⟩).run Try.prog w = .ok x.v w :=
  run_loadVar_mid w g 0 29 _ _ (Mx.range hg) Try.underlying29 rfl (by rw [mixL_length, hd]; exact size38)
theorem Rm.res2 {fn : Func} {p u : Tmp} {w : World} {g : Nat} {x : Rq} (hg : Rm w g x) (hd : x.dg.length = 32) (h : fn.results = #[.cell p 29, .tmp u]) (tmps : Array Value)
    (hp : tmps.getD p undef = .pointer (some ⟨g, 0, none⟩)) : (Go.results fn tmps).run Try.prog w = .ok (.tuple #[x.v, tmps.getD u undef]) w := by
  rw [results_cell_tmp h, hp]
  simp only [asAddr, Sem.run_pure, Result.andThen]
  rw [hg.loadVar hd]
theorem Rm.res3 {fn : Func} {p u v : Tmp} {w : World} {g : Nat} {x : Rq} (hg : Rm w g x) (hd : x.dg.length = 32) (h : fn.results = #[.cell p 29, .tmp u, .tmp v]) (tmps : Array Value)
    (hp : tmps.getD p undef = .pointer (some ⟨g, 0, none⟩)) : (Go.results fn tmps).run Try.prog w = .ok (.tuple #[x.v, tmps.getD u undef, tmps.getD v undef]) w := by
  rw [results_cell_tmp2 h, hp]
  simp only [asAddr, Sem.run_pure, Result.andThen]
  rw [hg.loadVar hd]

/-- blocks g and h of a call from world w: the record that it answers, the record that it makes -/
structure Rd (w W : World) (g h : Nat) (y x : Rq) : Prop where
  ne : g ≠ h
  lo : w.heap.size ≤ g
  lo' : w.heap.size ≤ h
  out : Rm W g y
  own : Rm W h x
  le : Below w.heap.size w W
  dy : y.dg.length = 32
  dx : x.dg.length = 32
section
variable {w W W' : World} {g h : Nat} {x y : Rq}
theorem Rd.later (r : Rd w W g h y x) (hb : Below W.heap.size W W') : Rd w W' g h y x := ⟨r.ne, r.lo, r.lo', r.out.later hb, r.own.later hb, below_step r.le hb, r.dy, r.dx⟩
theorem Rd.gt (r : Rd w W g h y x) : h < W.heap.size := Mx.lt r.own
theorem Rd.cell (r : Rd w W g h y x) (j : Nat) (v : Value) (z : Rq) (hz : Rm (W.setCell ⟨h, j, none⟩ v) h z) (dz : z.dg.length = 32) : Rd w (W.setCell ⟨h, j, none⟩ v) g h y z :=
  ⟨r.ne, r.lo, r.lo', Mx.other r.out _ _ r.ne, hz, r.le.setCell r.lo' _, r.dy, dz⟩
theorem Rd.setN (r : Rd w W g h y x) (N : Int) : Rd w (W.setCell ⟨h, 36, none⟩ (.int .i64 N)) g h y { x with N := N } := r.cell _ _ _ (r.own.setN r.dx N) r.dx
theorem Rd.setZ (r : Rd w W g h y x) (Z : Int) : Rd w (W.setCell ⟨h, 37, none⟩ (.int .i64 Z)) g h y { x with Z := Z } := r.cell _ _ _ (r.own.setZ r.dx Z) r.dx
theorem Rd.setNm (r : Rd w W g h y x) (nm : ByteArray) : Rd w (W.setCell ⟨h, 34, none⟩ (.string nm)) g h y { x with nm := nm } := r.cell _ _ _ (r.own.setNm r.dx nm) r.dx
theorem Rd.setDa (r : Rd w W g h y x) (p : Option Addr) (n c : Nat) (da : List Int) : Rd w (W.setCell ⟨h, 35, none⟩ (.slice p n c)) g h y { x with p := p, n := n, c := c, da := da } := r.cell _ _ _ (r.own.setDa r.dx p n c da) r.dx
theorem Rd.setS (r : Rd w W g h y x) (s : Int) : Rd w (W.setCell ⟨h, 1, none⟩ (.int .u64 s)) g h y { x with s := s } := r.cell _ _ _ (r.own.setS s) r.dx
theorem Rd.setDg (r : Rd w W g h y x) (dg : List Int) (hl : dg.length = 32) : Rd w (W.setCells h 2 (bcs dg).toList) g h y { x with dg := dg } := by
  rw [show (bcs dg).toList = dg.map (Value.int .u8) by simp [bcs]]
  exact ⟨r.ne, r.lo, r.lo', Mx.keep r.out (setCells_other h g r.ne _ _ _), r.own.setDg r.dx dg hl, below_setCells r.lo' _ _ _ r.le, r.dy, hl⟩
/-- the record is made whole -/
theorem Rd.put (r : Rd w W g h y x) (z : Rq) (dz : z.dg.length = 32) : Rd w (W.setRow h (mixC z.a z.dg z.z)) g h y z :=
  ⟨r.ne, r.lo, r.lo', Mx.keep r.out (setRow_other W h g _ r.ne), r.own.row, below_setRow8 r.le h _ r.lo', r.dy, dz⟩
/-- .. and answered -/
theorem Rd.ans (r : Rd w W g h y x) (z : Rq) (dz : z.dg.length = 32) : Rd w (W.setRow g (mixC z.a z.dg z.z)) g h z x :=
  ⟨r.ne, r.lo, r.lo', r.out.row, Mx.keep r.own (setRow_other W g h _ r.ne.symm), below_setRow8 r.le g _ r.lo, dz, r.dx⟩
end
theorem Rq.sizes (x y : Rq) (hx : x.dg.length = 32) (hy : y.dg.length = 32) : (mixC x.a x.dg x.z).size = (mixC y.a y.dg y.z).size := by rw [x.size hx, y.size hy]
/-- a record of a kind, all else zero -/
def rqK (k : Int) : Rq := { rq0 with k := k }
theorem rq0C : mixC rq0.a rq0.dg rq0.z = #[.int .i64 0, .int .u64 0, .int .u8 0, .int .u8 0, .int .u8 0, .int .u8 0, .int .u8 0, .int .u8 0, .int .u8 0, .int .u8 0, .int .u8 0, .int .u8 0, .int .u8 0, .int .u8 0, .int .u8 0, .int .u8 0, .int .u8 0, .int .u8 0, .int .u8 0, .int .u8 0, .int .u8 0, .int .u8 0, .int .u8 0, .int .u8 0, .int .u8 0, .int .u8 0, .int .u8 0, .int .u8 0, .int .u8 0, .int .u8 0, .int .u8 0, .int .u8 0, .int .u8 0, .int .u8 0, .string ⟨#[]⟩, .slice none 0 0, .int .i64 0, .int .i64 0] := rfl
end Go.Proofs.Ytjdigncieoaglaa

namespace Go.Proofs.Ytjdigncieoaglaa
set_option linter.unusedVariables false
open Go.RowKit Go.Lib

/-- a word -/
structure Wq where
  k : Int
  s : Int
  dg : List Int
  nm : ByteArray
  z : Int
  seg : Int
  off : Int
  len : Int
def Wq.a (x : Wq) : List Value := [.int .i64 x.k, .int .u64 x.s]
def Wq.t (x : Wq) : List Value := [.string x.nm, .int .i64 x.z, .int .i64 x.seg, .int .i64 x.off, .int .i64 x.len]
def Wq.v (x : Wq) : Value := .agg (mixC x.a x.dg x.t)
def wq0 : Wq := ⟨0, 0, dg0, ⟨#[]⟩, 0, 0, 0, 0⟩
theorem wq0C : mixC wq0.a wq0.dg wq0.t = #[.int .i64 0, .int .u64 0, .int .u8 0, .int .u8 0, .int .u8 0, .int .u8 0, .int .u8 0, .int .u8 0, .int .u8 0, .int .u8 0, .int .u8 0, .int .u8 0, .int .u8 0, .int .u8 0, .int .u8 0, .int .u8 0, .int .u8 0, .int .u8 0, .int .u8 0, .int .u8 0, .int .u8 0, .int .u8 0, .int .u8 0, .int .u8 0, .int .u8 0, .int .u8 0, .int .u8 0, .int .u8 0, .int .u8 0, .int .u8 0, .int .u8 0, .int .u8 0, .int .u8 0, .int .u8 0, .string ⟨#[]⟩, .int .i64 0, .int .i64 0, .int .i64 0, .int .i64 0] := rfl
/-- block b holds a word -/
def Wm (w : World) (b : Nat) (x : Wq) : Prop := Mx w b 50 x.a x.dg x.t
theorem size39 : (Try.prog.info? 50).map (·.size) = some 39 := by kernel_rfl
theorem Wq.size (x : Wq) (hd : x.dg.length = 32) : (mixC x.a x.dg x.t).size = 39 := by rw [mixC_size, hd]; rfl
theorem Wq.sizeOf (x : Wq) (hd : x.dg.length = 32) : (Try.prog.info? 50).map (·.size) = some (mixC x.a x.dg x.t).size := by rw [x.size hd]; exact size39
theorem Wq.sizes (x y : Wq) (hx : x.dg.length = 32) (hy : y.dg.length = 32) : (mixC x.a x.dg x.t).size = (mixC y.a y.dg y.t).size := by rw [x.size hx, y.size hy]
theorem Wq.one (x : Wq) : (mixC x.a x.dg x.t).all (·.oneCell') = true := mixC_one (by simp [Wq.a, Value.oneCell']) (by simp [Wq.t, Value.oneCell'])
theorem Wm.load {w : World} {b : Nat} {x : Wq} (h : Wm w b x) (hd : x.dg.length = 32) : (Instr.loadAt 50 (.pointer (some ⟨b, 0, none⟩))).run Try.prog w = .ok (.agg (mixC x.a x.dg x.t)) w :=
  Mx.load h _ Try.underlying50 rfl (x.sizeOf hd)
theorem Wm.res1 {fn : Func} {p : Tmp} {w : World} {g : Nat} {x : Wq} (hg : Wm w g x) (hd : x.dg.length = 32) (h : fn.results = #[.cell p 50]) (tmps : Array Value)
    (hp : tmps.getD p undef = .pointer (some ⟨g, 0, none⟩)) : (Go.results fn tmps).run Try.prog w = .ok x.v w :=
  results_cell_row h tmps w g _ _ _ _ hp hg Try.underlying50 rfl (x.sizeOf hd)
theorem Wm.cells {w : World} {b : Nat} {x : Wq} (h : Wm w b x) (hd : x.dg.length = 32) : w.cell? ⟨b, 34, none⟩ = some (.string x.nm) ∧ w.cell? ⟨b, 35, none⟩ = some (.int .i64 x.z) := ⟨Mx.last h hd 0 _ rfl, Mx.last h hd 1 _ rfl⟩
theorem Wm.setNm {w : World} {b : Nat} {x : Wq} (h : Wm w b x) (hd : x.dg.length = 32) (nm : ByteArray) : Wm (w.setCell ⟨b, 34, none⟩ (.string nm)) b { x with nm := nm } := Mx.setLast h hd 0 _
theorem Wm.setZ {w : World} {b : Nat} {x : Wq} (h : Wm w b x) (hd : x.dg.length = 32) (z : Int) : Wm (w.setCell ⟨b, 35, none⟩ (.int .i64 z)) b { x with z := z } := Mx.setLast h hd 1 _
theorem Wm.setDg {w : World} {b : Nat} {x : Wq} (h : Wm w b x) (hd : x.dg.length = 32) (dg : List Int) (hl : dg.length = 32) : Wm (w.setCells b 2 (bcs dg).toList) b { x with dg := dg } := by
  rw [show (bcs dg).toList = dg.map (Value.int .u8) by simp [bcs]]
  exact Mx.setDig h (by rw [hl, hd]) 2 rfl
/-- a place, as a value -/
def locV (seg off len : Int) : Value := .agg #[.int .i64 seg, .int .i64 off, .int .i64 len]
/-- what a record says at a place -/
def wordQ (x : Rq) (seg off len : Int) : Wq :=
  if x.k < 1 ∨ x.k > 8 then ⟨x.k, x.s, dg0, ⟨#[]⟩, 0, seg, off, len⟩
  else ⟨x.k, x.s, if x.k ≤ 3 ∨ x.k = 5 then x.dg else dg0, if x.k = 3 ∨ x.k = 4 then x.nm else ⟨#[]⟩, if x.k ≤ 2 then x.n else if x.k = 6 ∨ x.k = 8 then x.Z else 0, seg, off, len⟩
end Go.Proofs.Ytjdigncieoaglaa

namespace Go.Proofs.Ytjdigncieoaglaa
set_option linter.unusedVariables false
open Go.RowKit Go.Lib

theorem kinds {k : Int} : k < 1 ∨ k > 8 ∨ k = 1 ∨ k = 2 ∨ k = 3 ∨ k = 4 ∨ k = 5 ∨ k = 6 ∨ k = 7 ∨ k = 8 := by omega
/-- what a call that boxes a record finds -/
theorem box_rec (w : World) (x : Rq) (hd : x.dg.length = 32) : ∃ wA, w.alloc (.cells (mixC x.a x.dg x.z) 29) = wA ∧ Rm wA w.heap.size x ∧ Below w.heap.size w wA ∧
    (wA.cell? ⟨w.heap.size, 0, none⟩ = some (.int .i64 x.k) ∧ wA.cell? ⟨w.heap.size, 1, none⟩ = some (.int .u64 x.s) ∧ wA.cell? ⟨w.heap.size, 34, none⟩ = some (.string x.nm) ∧ wA.cell? ⟨w.heap.size, 35, none⟩ = some (.slice x.p x.n x.c) ∧ wA.cell? ⟨w.heap.size, 36, none⟩ = some (.int .i64 x.N) ∧ wA.cell? ⟨w.heap.size, 37, none⟩ = some (.int .i64 x.Z)) :=
  ⟨_, rfl, Rm.new w x, (Below.refl _ _).alloc (Nat.le_refl _) _, (Rm.new w x).cells hd⟩
theorem wrap8 {n : Int} (h0 : 0 ≤ n) (h : n < 256) : IntKind.u8.wrap n = n := by simp [IntKind.wrap, IntKind.bits, IntKind.signed]; omega
/-- a record's frame -/
def makeN (r : Rc) : List Int := if rightN r = 0 then frmN r.k r.s (dataN r) else []
theorem Rd.start (w : World) : Rd w ((w.alloc (.cells (mixC rq0.a rq0.dg rq0.z) 29)).alloc (.cells (mixC rq0.a rq0.dg rq0.z) 29)) w.heap.size (w.heap.size + 1) rq0 rq0 :=
  ⟨by omega, Nat.le_refl _, by omega, heap_alloc2_old _ _ _, heap_alloc2_new _ _ _, ((Below.refl _ _).alloc (Nat.le_refl _) _).alloc (by simp) _, rfl, rfl⟩
theorem i64_zero : (-9223372036854775808 : Int) ≤ 0 ∧ (0 : Int) ≤ 9223372036854775807 := by omega
theorem u64_zero : (0 : Int) ≤ 0 ∧ (0 : Int) < 18446744073709551616 := by omega
theorem rqK_fit {k : Int} (hk : 1 ≤ k ∧ k ≤ 8) (w : World) : (rqK k).Fit w := ⟨Bs.empty _ _, fun _ => rfl, Nat.le_refl _, Nat.zero_le _, dok_zero, (Nat.zero_le 140737488355328 : (0 : Nat) ≤ 140737488355328), u64_zero, by show _ ≤ k ∧ k ≤ _; omega, i64_zero, i64_zero⟩
theorem keep_row {W W' : World} {g : Nat} {cs : Array Value} (h : W.setRow g cs = W') : ∀ k, k ≠ g → W'.heap[k]? = W.heap[k]? := fun k hk => by rw [← h]; exact setRow_other _ _ _ _ hk
theorem keep_cells {W W' : World} {g o : Nat} {cs : List Value} (h : W.setCells g o cs = W') : ∀ k, k ≠ g → W'.heap[k]? = W.heap[k]? := fun k hk => by rw [← h]; exact setCells_other _ _ hk _ _ _
theorem keep_cell {W W' : World} {g o : Nat} {v : Value} (h : W.setCell ⟨g, o, none⟩ v = W') : ∀ k, k ≠ g → W'.heap[k]? = W.heap[k]? := fun k hk => by rw [← h]; exact heap_setCell_other _ ⟨g, o, none⟩ k v hk
theorem Ob.at {w : World} {B : Nat} {e : TypeId} {p : Option Addr} {n c : Nat} {zs : List Int} (h : Ob w B e (.slice p n c) zs) : Bs w p n zs ∧ n ≤ c ∧ c ≤ maxLen ∧ (p = none → c = 0) := by
  obtain ⟨p', c', hv, h1, h2, h3, h4⟩ := h.open
  simp only [Value.slice.injEq] at hv
  obtain ⟨rfl, rfl, rfl⟩ := hv
  exact ⟨h3, h1, h2, h4⟩
theorem read12 {k : Int} (h : k = 1 ∨ k = 2) (zs : List Int) : readN k zs = if zs.length < 32 then none else some ⟨k, 0, zs.take 32, [], zs.drop 32, 0, 0⟩ := by
  unfold readN
  rw [if_pos (by omega)]
/-- why no record stands at a place -/
def rpE (zs : List Int) (a : Int) : Int := if psE zs a ≠ 0 then psE zs a else match readN (psF zs a).k (psF zs a).d with
  | none => 3
  | some r => rightN r
/-- which one does -/
def rpR (zs : List Int) (a : Int) : Rc := if rpE zs a = 0 then (match readN (psF zs a).k (psF zs a).d with
  | none => rc0
  | some r => { r with s := (psF zs a).s }) else rc0
def rpN (zs : List Int) (a : Int) : Int := if rpE zs a = 0 then (psF zs a).e else 0
def RpQ (w : World) (zs : List Int) (a : Int) (e : Ending) (w' : World) : Prop := ∃ x : Rq, e = .returned (.tuple #[x.v, .int .i64 (rpN zs a), .int .i64 (rpE zs a)]) ∧ x.Fit w' ∧ x.rc = rpR zs a ∧ Below w.heap.size w w'
theorem RpQ.of {w w' : World} {zs : List Int} {a n e : Int} (x : Rq) (hn : n = rpN zs a) (he : e = rpE zs a) (hf : x.Fit w') (hx : x.rc = rpR zs a) (hb : Below w.heap.size w w') : RpQ w zs a (.returned (.tuple #[x.v, .int .i64 n, .int .i64 e])) w' := by
  subst hn he
  exact ⟨x, rfl, hf, hx, hb⟩
theorem RpQ.no {w w' : World} {zs : List Int} {a e : Int} (he : e = rpE zs a) (h0 : e ≠ 0) (hb : Below w.heap.size w w') : RpQ w zs a (.returned (.tuple #[rq0.v, .int .i64 0, .int .i64 e])) w' := by
  subst he
  exact RpQ.of rq0 (by unfold rpN; rw [if_neg h0]) rfl (rq0_fit w') (by unfold rpR; rw [if_neg h0]; rfl) hb
theorem rightN_s (r : Rc) (s : Int) : rightN { r with s := s } = rightN r := rfl
theorem Rd.second (w W : World) (x : Rq) (hW : Rm W w.heap.size rq0) (hb : Below w.heap.size w W) (hg : w.heap.size < W.heap.size) : Rd w (W.alloc (.cells (mixC rq0.a rq0.dg rq0.z) 29)) w.heap.size W.heap.size rq0 rq0 :=
  ⟨by omega, Nat.le_refl _, by omega, Mx.later hW ((Below.refl _ _).alloc (Nat.le_refl _) _), heap_alloc_new _ _, hb.alloc hb.size _, rfl, rfl⟩
theorem Rm.res1 {fn : Func} {p : Tmp} {w : World} {g : Nat} {x : Rq} (hg : Rm w g x) (hd : x.dg.length = 32) (h : fn.results = #[.cell p 29]) (tmps : Array Value)
    (hp : tmps.getD p undef = .pointer (some ⟨g, 0, none⟩)) : (Go.results fn tmps).run Try.prog w = .ok x.v w :=
  results_cell_row h tmps w g _ _ _ _ hp hg Try.underlying29 rfl (x.sizeOf hd)
def bareQ (x : Rq) : Rq := ⟨x.k, x.s, if x.k ≤ 3 ∨ x.k = 5 then x.dg else dg0, if x.k = 3 ∨ x.k = 4 then x.nm else ⟨#[]⟩, if x.k ≤ 2 then x.p else none, if x.k ≤ 2 then x.n else 0, if x.k ≤ 2 then x.c else 0, if x.k ≤ 2 then x.da else [], if x.k ≥ 6 then x.N else 0, if x.k = 6 ∨ x.k = 8 then x.Z else 0⟩
def rqKS (k s : Int) : Rq := { rq0 with k := k, s := s }
theorem bare_right {r : Rc} (h : rightN r = 0) : rightN (bareN r) = 0 := by
  have hk := rightN_k h
  obtain ⟨k, s, dg, nm, da, n, z⟩ := r
  dsimp only at hk
  unfold bareN
  dsimp only
  rcases kinds (k := k) with h1 | h1 | rfl | rfl | rfl | rfl | rfl | rfl | rfl | rfl
  · omega
  · omega
  all_goals (unfold rightN at h ⊢; dsimp only at h ⊢; simp at h ⊢; try simpa using h)
theorem bare_bare (r : Rc) : bareN { bareN r with s := r.s } = bareN r := by
  unfold bareN
  simp only [Rc.mk.injEq, true_and]
  refine ⟨?_, ?_, ?_, ?_, ?_⟩ <;> (split <;> simp_all)
/-- a record that was made is read -/
theorem rp_made {r : Rc} (hr : r.Ok) (h : rightN r = 0) (hs : 0 ≤ r.s ∧ r.s < 18446744073709551616) : rpE (makeN r) 0 = 0 ∧ rpR (makeN r) 0 = bareN r ∧ rpN (makeN r) 0 = (makeN r).length := by
  have hk := rightN_k h
  have hl := dataN_len hr h
  have hp := ps_made [] [] (dataN r) r.k r.s 0 (dataN r).length rfl rfl hk.1 hk.2 hl hs.1 hs.2
  rw [List.nil_append, List.append_nil] at hp
  have hm : makeN r = frmN r.k r.s (dataN r) := by unfold makeN; rw [if_pos h]
  have hb := rec_back hr h
  have hE : rpE (makeN r) 0 = 0 := by
    unfold rpE
    rw [hm, show (0 : Int) = ((0 : Nat) : Int) from rfl, hp.1, hp.2]
    simp only [ne_eq, not_true, if_false, hb]
    rw [rightN_s]
    exact bare_right h
  refine ⟨hE, ?_, ?_⟩
  · unfold rpR
    rw [if_pos hE, hm, show (0 : Int) = ((0 : Nat) : Int) from rfl, hp.2]
    simp only [hb]
    rfl
  · unfold rpN
    rw [if_pos hE, hm, show (0 : Int) = ((0 : Nat) : Int) from rfl, hp.2, frmN_length]
    dsimp only
    omega
theorem makeN_length {r : Rc} (hr : r.Ok) : (makeN r).length ≤ 65557 := by
  unfold makeN
  split
  · rename_i h
    have := dataN_len hr h
    rw [frmN_length]; omega
  · simp
theorem bareQ_fit {x : Rq} {w : World} (h : x.Fit w) : (bareQ x).Fit w := by
  have h0 : (0 : Int) ≤ 0 ∧ (0 : Int) ≤ 0 := by omega
  unfold bareQ
  by_cases hk : x.k ≤ 2
  · simp only [if_pos hk]
    exact ⟨h.bs, h.pc, h.nc, h.cm, by dsimp only; split; exact h.dg; exact dok_zero, by dsimp only; split; exact h.nm; exact Nat.zero_le _, h.s, h.k, by dsimp only; split; exact h.N; exact i64_zero, by dsimp only; split; exact h.Z; exact i64_zero⟩
  · simp only [if_neg hk]
    exact ⟨Bs.empty _ _, fun _ => rfl, Nat.le_refl _, Nat.zero_le _, by dsimp only; split; exact h.dg; exact dok_zero, by dsimp only; split; exact h.nm; exact Nat.zero_le _, h.s, h.k, by dsimp only; split; exact h.N; exact i64_zero, by dsimp only; split; exact h.Z; exact i64_zero⟩
theorem bareQ_rc (x : Rq) : (bareQ x).rc = bareN x.rc := by
  unfold bareQ Rq.rc bareN
  simp only [Rc.mk.injEq, true_and, and_true]
  split <;> rfl
end Go.Proofs.Ytjdigncieoaglaa

namespace Go.Proofs.Ytjdigncieoaglaa
set_option linter.unusedVariables false

/-- a record with another number -/
def Rc.num (r : Rc) (s : Int) : Rc := { r with s := s }
/-- what is wrong with the first record that is -/
def firstN : List Rc → Int
  | [] => 0
  | r :: l => if rightN r ≠ 0 then rightN r else firstN l
def kindsN (l : List Rc) : Bool := l.all fun r => decide (1 ≤ r.k ∧ r.k ≤ 5)
def wrongN (l : List Rc) : Int := if l = [] then 2 else if kindsN l = false then 2 else firstN l
/-- the frames, from a number on -/
def framesN : List Rc → Int → List Int
  | [], _ => []
  | r :: l, s => makeN (r.num s) ++ framesN l (s + 1)
def commitN (s n z : Int) : Rc := ⟨6, s, dg0, [], [], n, z⟩
def batN (l : List Rc) (s : Int) : List Int := framesN l s ++ makeN (commitN (s + l.length) l.length (framesN l s).length)
def bmE (l : List Rc) (s : Int) : Int := if wrongN l ≠ 0 then wrongN l else if s + l.length + 1 > 18446744073709551615 then 20 else 0
def bmB (l : List Rc) (s : Int) : List Int := if bmE l s = 0 then batN l s else []
def bmS (l : List Rc) (s : Int) : Int := if bmE l s = 0 then s + l.length + 1 else s
def bzN (l : List Rc) : Int := if wrongN l = 0 then (batN l 0).length else 0

theorem rightN_num (r : Rc) (s : Int) : rightN (r.num s) = rightN r := rfl
theorem firstN_zero {l : List Rc} : firstN l = 0 ↔ ∀ r ∈ l, rightN r = 0 := by
  induction l with
  | nil => simp [firstN]
  | cons r l ih =>
    unfold firstN
    by_cases h : rightN r = 0
    · simp [h, ih]
    · simp [h]
theorem kindsN_true {l : List Rc} : kindsN l = true ↔ ∀ r ∈ l, 1 ≤ r.k ∧ r.k ≤ 5 := by simp [kindsN]
theorem wrongN_zero {l : List Rc} (h : wrongN l = 0) : l ≠ [] ∧ (∀ r ∈ l, 1 ≤ r.k ∧ r.k ≤ 5) ∧ ∀ r ∈ l, rightN r = 0 := by
  unfold wrongN at h
  by_cases h0 : l = []
  · rw [if_pos h0] at h; omega
  rw [if_neg h0] at h
  by_cases h1 : kindsN l = false
  · rw [if_pos h1] at h; omega
  rw [if_neg h1] at h
  exact ⟨h0, kindsN_true.1 (by simpa using h1), firstN_zero.1 h⟩
theorem framesN_append (l m : List Rc) (s : Int) : framesN (l ++ m) s = framesN l s ++ framesN m (s + l.length) := by
  induction l generalizing s with
  | nil => simp [framesN]
  | cons r l ih =>
    simp only [List.cons_append, framesN, ih, List.append_assoc, List.length_cons]
    congr 3
    omega
theorem makeN_len {r : Rc} (h : rightN r = 0) : (makeN r).length = 21 + (dataN r).length := by
  unfold makeN
  rw [if_pos h, frmN_length]
  omega
theorem framesN_length (l : List Rc) (s t : Int) : (framesN l s).length = (framesN l t).length := by
  induction l generalizing s t with
  | nil => rfl
  | cons r l ih =>
    simp only [framesN, List.length_append]
    rw [ih (s + 1) (t + 1)]
    congr 1
    unfold makeN
    rw [rightN_num, rightN_num]
    split
    · rw [frmN_length, frmN_length]; rfl
    · rfl
theorem batN_length (l : List Rc) (s t : Int) : (batN l s).length = (batN l t).length := by
  unfold batN
  rw [List.length_append, List.length_append, framesN_length l s t]
  congr 1
  have h1 : rightN (commitN (s + l.length) l.length (framesN l t).length) = rightN (commitN (t + l.length) l.length (framesN l t).length) := rfl
  unfold makeN
  rw [h1]
  split
  · rw [frmN_length, frmN_length]; rfl
  · rfl
theorem Rc.Ok.num {r : Rc} (h : r.Ok) (s : Int) : (r.num s).Ok := ⟨h.dg, h.dgl, h.nm, h.da⟩
theorem makeN_byt {r : Rc} (hr : r.Ok) : Byt (makeN r) := by
  unfold makeN
  split
  · rename_i h
    exact (dataN_byt hr h).frmN _ _
  · exact Byt.nil
theorem framesN_byt {l : List Rc} (h : ∀ r ∈ l, r.Ok) (s : Int) : Byt (framesN l s) := by
  induction l generalizing s with
  | nil => exact Byt.nil
  | cons r l ih =>
    unfold framesN
    exact (makeN_byt ((h r (by simp)).num s)).app (ih (fun x hx => h x (by simp [hx])) _)
theorem commitN_ok (s n z : Int) : (commitN s n z).Ok := ⟨dg0_byt, by simp [commitN, dg0], Byt.nil, Byt.nil⟩
theorem batN_byt {l : List Rc} (h : ∀ r ∈ l, r.Ok) (s : Int) : Byt (batN l s) := (framesN_byt h s).app (makeN_byt (commitN_ok _ _ _))

/-- a record that was made is read wherever it stands -/
theorem rp_made_at {r : Rc} (hr : r.Ok) (h : rightN r = 0) (hs : 0 ≤ r.s ∧ r.s < 18446744073709551616) (az es : List Int) :
    rpE (az ++ makeN r ++ es) (az.length : Int) = 0 ∧ rpR (az ++ makeN r ++ es) (az.length : Int) = bareN r ∧ rpN (az ++ makeN r ++ es) (az.length : Int) = (az.length : Int) + (makeN r).length := by
  have hk := rightN_k h
  have hl := dataN_len hr h
  have hp := ps_made az es (dataN r) r.k r.s az.length (dataN r).length rfl rfl hk.1 hk.2 hl hs.1 hs.2
  have hm : makeN r = frmN r.k r.s (dataN r) := by unfold makeN; rw [if_pos h]
  have hb := rec_back hr h
  have hE : rpE (az ++ makeN r ++ es) (az.length : Int) = 0 := by
    unfold rpE
    rw [hm, hp.1, hp.2]
    simp only [ne_eq, not_true, if_false, hb]
    rw [rightN_s]
    exact bare_right h
  refine ⟨hE, ?_, ?_⟩
  · unfold rpR
    rw [if_pos hE, hm, hp.2]
    simp only [hb]
    rfl
  · unfold rpN
    rw [if_pos hE, hm, hp.2, frmN_length]
    dsimp only
    omega
/-- a record that was cut is not -/
theorem rp_cut {r : Rc} (hr : r.Ok) (h : rightN r = 0) (az : List Int) (hz : Byt az) (j : Nat) (hj : j < (makeN r).length) : rpE (az ++ (makeN r).take j) (az.length : Int) ≠ 0 := by
  intro hE
  have hk := rightN_k h
  have hm : makeN r = frmN r.k r.s (dataN r) := by unfold makeN; rw [if_pos h]
  have hl := dataN_len hr h
  have hps : psE (az ++ (makeN r).take j) (az.length : Int) = 0 := by
    unfold rpE at hE
    by_cases h0 : psE (az ++ (makeN r).take j) (az.length : Int) = 0
    · exact h0
    · rw [if_pos h0] at hE
      exact hE
  obtain ⟨m, n, hmz, hle, hn6, hdn, hk', hs', hdb, _, hfr⟩ := ps_of (hz.app ((makeN_byt hr).take j)) hps
  obtain rfl : az.length = m := by omega
  have hll : ((makeN r).take j).length = j := by rw [List.length_take]; omega
  rw [List.length_append, hll] at hle
  rw [List.drop_left, List.take_take, Nat.min_eq_left (by omega)] at hfr
  have h1 : leN (frmN (psF (az ++ (makeN r).take j) (az.length : Int)).k (psF (az ++ (makeN r).take j) (az.length : Int)).s (psF (az ++ (makeN r).take j) (az.length : Int)).d) 9 4 = leN ((makeN r).take (n + 21)) 9 4 := by rw [hfr]
  rw [leN_take _ _ _ _ (by omega)] at h1
  generalize psF (az ++ (makeN r).take j) (az.length : Int) = FF at *
  have h2 : leN (frmN FF.k FF.s FF.d) 9 4 = n := by
    rw [← List.append_nil (frmN FF.k FF.s FF.d), frmN_split, frmS_size _ _ _ _ (by omega) (by omega), hdn]
  have h3 : leN (makeN r) 9 4 = (dataN r).length := by
    rw [hm, ← List.append_nil (frmN r.k r.s (dataN r)), frmN_split, frmS_size _ _ _ _ (by omega) (by omega)]
  rw [h2, h3] at h1
  rw [hm, frmN_length] at hj
  omega

/-- a word, plainly -/
structure Wd where
  k : Int
  s : Int
  dg : List Int
  nm : List Int
  z : Int
  seg : Int
  off : Int
  len : Int
def wordN (r : Rc) (seg off len : Int) : Wd :=
  if r.k < 1 ∨ r.k > 8 then ⟨r.k, r.s, dg0, [], 0, seg, off, len⟩
  else ⟨r.k, r.s, if r.k ≤ 3 ∨ r.k = 5 then r.dg else dg0, if r.k = 3 ∨ r.k = 4 then r.nm else [], if r.k ≤ 2 then r.da.length else if r.k = 6 ∨ r.k = 8 then r.z else 0, seg, off, len⟩
/-- what the reading of a batch answers -/
structure Bp where
  ws : List Wd
  e : Int
  s : Int
  err : Int
def bpNo (err : Int) : Bp := ⟨[], 0, 0, err⟩
def lastS : List Wd → Int
  | [] => 0
  | [w] => w.s
  | _ :: l => lastS l
theorem lastS_append (l : List Wd) (w : Wd) : lastS (l ++ [w]) = w.s := by
  induction l with
  | nil => rfl
  | cons x l ih =>
    cases l with
    | nil => rfl
    | cons y l => simpa [lastS] using ih
def bpGo : Nat → List Int → Int → Int → Int → List Wd → Bp
  | 0, _, _, _, _, _ => bpNo 3
  | f + 1, zs, seg, from_, at_, out =>
    if rpE zs at_ ≠ 0 then bpNo (rpE zs at_)
    else if out ≠ [] ∧ ((rpR zs at_).s < 1 ∨ (rpR zs at_).s - 1 ≠ lastS out) then bpNo 3
    else if (rpR zs at_).k = 6 ∧ out ≠ [] ∧ (rpR zs at_).n = out.length ∧ (rpR zs at_).z = at_ - from_ then ⟨out, rpN zs at_, (rpR zs at_).s, 0⟩
    else if (rpR zs at_).k > 5 then bpNo 3
    else bpGo f zs seg from_ (rpN zs at_) (out ++ [wordN (rpR zs at_) seg at_ (rpN zs at_ - at_)])
def bpF (zs : List Int) (at_ seg : Int) : Bp := bpGo (zs.length + 1) zs seg at_ at_ []
theorem bpGo_err {f : Nat} {zs : List Int} {seg from_ at_ : Int} {out : List Wd} (h : (bpGo f zs seg from_ at_ out).err ≠ 0) :
    (bpGo f zs seg from_ at_ out).ws = [] ∧ (bpGo f zs seg from_ at_ out).e = 0 ∧ (bpGo f zs seg from_ at_ out).s = 0 := by
  induction f generalizing at_ out with
  | zero => exact ⟨rfl, rfl, rfl⟩
  | succ f ih =>
    unfold bpGo at h ⊢
    split
    · exact ⟨rfl, rfl, rfl⟩
    rename_i h1
    rw [if_neg h1] at h
    split
    · exact ⟨rfl, rfl, rfl⟩
    rename_i h2
    rw [if_neg h2] at h
    split
    · rename_i h3
      rw [if_pos h3] at h
      exact absurd rfl h
    rename_i h3
    rw [if_neg h3] at h
    split
    · exact ⟨rfl, rfl, rfl⟩
    rename_i h4
    rw [if_neg h4] at h
    exact ih h
/-- the words of a batch's records -/
def wordsN : List Rc → Int → Int → Int → List Wd
  | [], _, _, _ => []
  | r :: l, s, seg, at_ => wordN (bareN (r.num s)) seg at_ (makeN (r.num s)).length :: wordsN l (s + 1) seg (at_ + (makeN (r.num s)).length)
theorem wordsN_length (l : List Rc) (s seg at_ : Int) : (wordsN l s seg at_).length = l.length := by
  induction l generalizing s at_ with
  | nil => rfl
  | cons r l ih => simp [wordsN, ih]
theorem bareN_num_s (r : Rc) (s : Int) : (bareN (r.num s)).s = s := rfl
theorem bareN_k (r : Rc) : (bareN r).k = r.k := rfl
theorem wordN_s (r : Rc) (seg off len : Int) : (wordN r seg off len).s = r.s := by
  unfold wordN
  split <;> rfl
theorem commit_right {s n z : Int} (hn : 0 ≤ n ∧ n < 4294967296) (hz : 0 ≤ z ∧ z < 4294967296) : rightN (commitN s n z) = 0 := by
  unfold rightN commitN
  simp
  omega
theorem bare_commit (s n z : Int) : bareN (commitN s n z) = commitN s n z := by
  unfold bareN commitN
  simp

/-- the frames of what is left, then the commit: they are read -/
theorem bpGo_back (seg from_ : Int) (es : List Int) : ∀ (l : List Rc) (s : Int) (az : List Int) (out : List Wd) (f : Nat) (c : Rc), (∀ r ∈ l, r.Ok ∧ (1 ≤ r.k ∧ r.k ≤ 5) ∧ rightN r = 0) → 0 ≤ s → s + l.length ≤ 18446744073709551615 → (out ≠ [] → 1 ≤ s ∧ lastS out = s - 1) → l.length < f → (l = [] → out ≠ []) →
    c = commitN (s + l.length) (out.length + l.length) ((az.length : Int) + (framesN l s).length - from_) → rightN c = 0 →
    bpGo f (az ++ (framesN l s ++ makeN c) ++ es) seg from_ (az.length : Int) out = ⟨out ++ wordsN l s seg az.length, (az.length : Int) + (framesN l s).length + (makeN c).length, s + l.length, 0⟩
  | [], s, az, out, f, c, hl, h0, h1, ho, hf, hne, hc, hr => by
    obtain ⟨f, rfl⟩ : ∃ g, f = g + 1 := ⟨f - 1, by simp at hf; omega⟩
    have hok := commitN_ok (s + (0 : Int)) (out.length + (0 : Int)) ((az.length : Int) + (0 : Int) - from_)
    simp only [framesN, List.length_nil, Int.natCast_zero, Int.add_zero, List.nil_append, wordsN, List.append_nil] at *
    subst hc
    obtain ⟨hE, hR, hN⟩ := rp_made_at hok hr ⟨h0, by show s < _; omega⟩ az es
    have hon := hne trivial
    unfold bpGo
    rw [if_neg (by rw [hE]; simp), hR, hN, bare_commit]
    have e1 : (commitN s out.length ((az.length : Int) - from_)).s = s := rfl
    have e2 : (commitN s out.length ((az.length : Int) - from_)).k = 6 := rfl
    have e3 : (commitN s out.length ((az.length : Int) - from_)).n = out.length := rfl
    have e4 : (commitN s out.length ((az.length : Int) - from_)).z = (az.length : Int) - from_ := rfl
    rw [e1, e2, e3, e4, if_neg (by rw [(ho hon).2]; have := (ho hon).1; omega), if_pos ⟨rfl, hon, rfl, rfl⟩]
  | r :: l, s, az, out, f, c, hl, h0, h1, ho, hf, hne, hc, hr => by
    obtain ⟨f, rfl⟩ : ∃ g, f = g + 1 := ⟨f - 1, by simp at hf; omega⟩
    obtain ⟨hok, hk, hri⟩ := hl r (by simp)
    have hln : ((r :: l).length : Int) = (l.length : Int) + 1 := by simp
    rw [hln] at h1
    obtain ⟨hE, hR, hN⟩ := rp_made_at (hok.num s) (show rightN (r.num s) = 0 from hri) ⟨h0, by show s < _; omega⟩ az ((framesN l (s + 1) ++ makeN c) ++ es)
    have hz : az ++ (framesN (r :: l) s ++ makeN c) ++ es = az ++ makeN (r.num s) ++ (framesN l (s + 1) ++ makeN c ++ es) := by
      simp [framesN, List.append_assoc]
    rw [hz]
    unfold bpGo
    rw [if_neg (by rw [hE]; simp), hR, hN, bareN_num_s, bareN_k]
    rw [if_neg (by
      rintro ⟨hon, hh⟩
      have := ho hon
      omega), if_neg (by show ¬ (r.k = 6 ∧ _); omega), if_neg (by show ¬ (r.k > 5); omega)]
    have ha : (az.length : Int) + (makeN (r.num s)).length = ((az ++ makeN (r.num s)).length : Nat) := by simp
    have hd : (az.length : Int) + (makeN (r.num s)).length - az.length = (makeN (r.num s)).length := by omega
    rw [hd]
    have hzz : az ++ makeN (r.num s) ++ (framesN l (s + 1) ++ makeN c ++ es) = (az ++ makeN (r.num s)) ++ (framesN l (s + 1) ++ makeN c) ++ es := by simp [List.append_assoc]
    rw [hzz, ha]
    have hfl : ((framesN (r :: l) s).length : Int) = (makeN (r.num s)).length + (framesN l (s + 1)).length := by simp [framesN]
    have IH := bpGo_back seg from_ es l (s + 1) (az ++ makeN (r.num s)) (out ++ [wordN (bareN (r.num s)) seg az.length (makeN (r.num s)).length]) f c
      (fun x hx => hl x (by simp [hx])) (by omega) (by omega) (fun _ => ⟨by omega, by rw [lastS_append, wordN_s, bareN_num_s]; omega⟩) (by simp at hf; omega) (fun _ => by simp)
      (by
        rw [hc, hln, hfl]
        congr 1
        · omega
        · simp; omega
        · simp; omega) hr
    rw [IH]
    congr 1
    · simp [wordsN]
    · rw [hfl]; simp; omega
    · rw [hln]; omega

theorem bat_back {l : List Rc} {s : Int} (hok : ∀ r ∈ l, r.Ok) (hw : wrongN l = 0) (h0 : 0 ≤ s) (h1 : s + l.length + 1 ≤ 18446744073709551615) (hz : (framesN l s).length < 4294967296) (hn : l.length < 4294967296) (az es : List Int) (seg : Int) :
    bpF (az ++ batN l s ++ es) (az.length : Int) seg = ⟨wordsN l s seg az.length, (az.length : Int) + (batN l s).length, s + l.length, 0⟩ := by
  obtain ⟨hne, hk, hr⟩ := wrongN_zero hw
  have hcr : rightN (commitN (s + l.length) l.length (framesN l s).length) = 0 := commit_right (by omega) (by omega)
  unfold bpF
  have hfr : ∀ (m : List Rc) (t : Int), (∀ r ∈ m, rightN r = 0) → m.length ≤ (framesN m t).length := by
    intro m
    induction m with
    | nil => intro t _; simp
    | cons x m ih =>
      intro t hm
      have h2 := ih (t + 1) fun y hy => hm y (by simp [hy])
      have h3 := makeN_len (r := x.num t) (hm x (by simp))
      simp only [framesN, List.length_append, List.length_cons]
      omega
  have h4 := hfr l s hr
  have := bpGo_back seg (az.length : Int) es l s az [] ((az ++ batN l s ++ es).length + 1) (commitN (s + l.length) l.length (framesN l s).length)
    (fun r hx => ⟨hok r hx, hk r hx, hr r hx⟩) h0 (by omega) (fun h => absurd rfl h) (by unfold batN; simp only [List.length_append]; omega) (fun h => absurd h hne) (by simp only [List.length_nil]; congr 1 <;> omega) hcr
  unfold batN at this ⊢
  rw [this, List.nil_append, List.length_append]
  congr 1
  push_cast
  omega

/-- what was cut is no batch -/
theorem bpGo_torn (seg from_ : Int) : ∀ (l : List Rc) (s : Int) (az : List Int) (out : List Wd) (f m : Nat) (c : Rc), Byt az → (∀ r ∈ l, r.Ok ∧ (1 ≤ r.k ∧ r.k ≤ 5) ∧ rightN r = 0) → 0 ≤ s → s + l.length ≤ 18446744073709551615 → c.Ok → rightN c = 0 → m < (framesN l s ++ makeN c).length →
    (bpGo f (az ++ (framesN l s ++ makeN c).take m) seg from_ (az.length : Int) out).err ≠ 0
  | [], s, az, out, f, m, c, hb, hl, h0, h1, hco, hcr, hm => by
    cases f with
    | zero => simp [bpGo, bpNo]
    | succ f =>
      rw [show framesN [] s ++ makeN c = makeN c from rfl] at hm ⊢
      have hE := rp_cut hco hcr az hb m hm
      unfold bpGo
      rw [if_pos hE]
      exact hE
  | r :: l, s, az, out, f, m, c, hb, hl, h0, h1, hco, hcr, hm => by
    cases f with
    | zero => simp [bpGo, bpNo]
    | succ f =>
      obtain ⟨hok, hk, hri⟩ := hl r (by simp)
      have hln : ((r :: l).length : Int) = (l.length : Int) + 1 := by simp
      rw [hln] at h1
      have hz : framesN (r :: l) s ++ makeN c = makeN (r.num s) ++ (framesN l (s + 1) ++ makeN c) := by simp [framesN, List.append_assoc]
      rw [hz] at hm ⊢
      by_cases hlt : m < (makeN (r.num s)).length
      · have hE := rp_cut (hok.num s) (show rightN (r.num s) = 0 from hri) az hb m hlt
        rw [List.take_append_of_le_length (Nat.le_of_lt hlt)]
        unfold bpGo
        rw [if_pos hE]
        exact hE
      · have ht : (makeN (r.num s) ++ (framesN l (s + 1) ++ makeN c)).take m = makeN (r.num s) ++ (framesN l (s + 1) ++ makeN c).take (m - (makeN (r.num s)).length) := by
          rw [List.take_append, List.take_of_length_le (by omega)]
        rw [ht, ← List.append_assoc]
        obtain ⟨hE, hR, hN⟩ := rp_made_at (hok.num s) (show rightN (r.num s) = 0 from hri) ⟨h0, by show s < _; omega⟩ az ((framesN l (s + 1) ++ makeN c).take (m - (makeN (r.num s)).length))
        unfold bpGo
        rw [if_neg (by rw [hE]; simp), hR, hN, bareN_num_s, bareN_k]
        split
        · simp [bpNo]
        · rw [if_neg (by show ¬ (r.k = 6 ∧ _); omega), if_neg (by show ¬ (r.k > 5); omega)]
          have ha : (az.length : Int) + (makeN (r.num s)).length = ((az ++ makeN (r.num s)).length : Nat) := by simp
          rw [ha]
          exact bpGo_torn seg from_ l (s + 1) (az ++ makeN (r.num s)) _ f _ c (hb.app (makeN_byt (hok.num s))) (fun x hx => hl x (by simp [hx])) (by omega) (by omega) hco hcr (by rw [List.length_append] at hm; omega)
theorem bat_torn {l : List Rc} {s : Int} (hok : ∀ r ∈ l, r.Ok) (hw : wrongN l = 0) (h0 : 0 ≤ s) (h1 : s + l.length + 1 ≤ 18446744073709551615) (hz : (framesN l s).length < 4294967296) (hn : l.length < 4294967296) (seg : Int) (m : Nat) (hm : m < (batN l s).length) :
    (bpF ((batN l s).take m) 0 seg).err ≠ 0 := by
  obtain ⟨hne, hk, hr⟩ := wrongN_zero hw
  have hcr : rightN (commitN (s + l.length) l.length (framesN l s).length) = 0 := commit_right (by omega) (by omega)
  have := bpGo_torn seg 0 l s [] [] (((batN l s).take m).length + 1) m (commitN (s + l.length) l.length (framesN l s).length) Byt.nil (fun r hx => ⟨hok r hx, hk r hx, hr r hx⟩) h0 (by omega) (commitN_ok _ _ _) hcr hm
  exact this
end Go.Proofs.Ytjdigncieoaglaa

namespace Go.Proofs.Ytjdigncieoaglaa
set_option linter.unusedVariables false

theorem rp_next {zs : List Int} (hz : Byt zs) {a : Int} (h : rpE zs a = 0) : 0 ≤ a ∧ a + 21 ≤ rpN zs a ∧ rpN zs a ≤ zs.length := by
  have hps : psE zs a = 0 := by
    unfold rpE at h
    by_cases h0 : psE zs a = 0
    · exact h0
    · rw [if_pos h0] at h
      exact h
  obtain ⟨m, n, rfl, hle, hn6, hdn, hk', hs', hdb, he, hfr⟩ := ps_of hz hps
  unfold rpN
  rw [if_pos h, he]
  omega
def need (zs : List Int) (a : Int) : Nat := ((zs.length : Int) - a).toNat + 1
theorem bpGo_fuel {zs : List Int} (hz : Byt zs) (seg from_ : Int) : ∀ (f g : Nat) (a : Int) (out : List Wd), need zs a ≤ f → need zs a ≤ g → bpGo f zs seg from_ a out = bpGo g zs seg from_ a out
  | 0, _, _, _, h, _ => by unfold need at h; omega
  | _, 0, _, _, _, h => by unfold need at h; omega
  | f + 1, g + 1, a, out, hf, hg => by
    unfold bpGo
    split
    · rfl
    rename_i h1
    have h0 : rpE zs a = 0 := Decidable.of_not_not h1
    obtain ⟨ha, hn, hl⟩ := rp_next hz h0
    split
    · rfl
    split
    · rfl
    split
    · rfl
    · refine bpGo_fuel hz seg from_ f g _ _ ?_ ?_
      · unfold need at hf ⊢; omega
      · unfold need at hg ⊢; omega
/-- what is left to read, from a place on -/
def bpR (zs : List Int) (seg from_ a : Int) (out : List Wd) : Bp := bpGo (need zs a) zs seg from_ a out
theorem bpF_start {zs : List Int} (hz : Byt zs) (a seg : Int) : bpF zs a seg = bpR zs seg a a [] := by
  unfold bpF bpR
  by_cases ha : 0 ≤ a
  · exact bpGo_fuel hz seg a _ _ a [] (by unfold need; omega) (Nat.le_refl _)
  · have hE : rpE zs a ≠ 0 := fun h => ha (rp_next hz h).1
    have e : ∀ f, bpGo (f + 1) zs seg a a [] = bpNo (rpE zs a) := fun f => by
      unfold bpGo
      rw [if_pos hE]
    rw [e, show need zs a = ((zs.length : Int) - a).toNat + 1 from rfl, e]
/-- a step of the reading -/
theorem bpR_step {zs : List Int} (hz : Byt zs) (seg from_ a : Int) (out : List Wd) : bpR zs seg from_ a out =
    if rpE zs a ≠ 0 then bpNo (rpE zs a)
    else if out ≠ [] ∧ ((rpR zs a).s < 1 ∨ (rpR zs a).s - 1 ≠ lastS out) then bpNo 3
    else if (rpR zs a).k = 6 ∧ out ≠ [] ∧ (rpR zs a).n = out.length ∧ (rpR zs a).z = a - from_ then ⟨out, rpN zs a, (rpR zs a).s, 0⟩
    else if (rpR zs a).k > 5 then bpNo 3
    else bpR zs seg from_ (rpN zs a) (out ++ [wordN (rpR zs a) seg a (rpN zs a - a)]) := by
  have e : bpR zs seg from_ a out = bpGo (((zs.length : Int) - a).toNat + 1) zs seg from_ a out := rfl
  rw [e]
  unfold bpGo
  split
  · rfl
  rename_i h1
  have h0 : rpE zs a = 0 := Decidable.of_not_not h1
  obtain ⟨ha, hn, hl⟩ := rp_next hz h0
  split
  · rfl
  split
  · rfl
  split
  · rfl
  · unfold bpR
    exact bpGo_fuel hz seg from_ _ _ _ _ (by unfold need; omega) (Nat.le_refl _)
end Go.Proofs.Ytjdigncieoaglaa

namespace Go.Proofs.Ytjdigncieoaglaa
set_option linter.unusedVariables false
open Go.RowKit Go.Lib

theorem rp_forth {zs : List Int} (hz : Byt zs) {a : Int} (h : rpE zs a = 0) :
    ∃ (m e : Nat), a = (m : Int) ∧ rpN zs a = (e : Int) ∧ m ≤ e ∧ e ≤ zs.length ∧ rightN (rpR zs a) = 0 ∧ makeN (rpR zs a) = (zs.drop m).take (e - m) := by
  have hR : rpR zs a = match readN (psF zs a).k (psF zs a).d with
    | none => rc0
    | some r => { r with s := (psF zs a).s } := by unfold rpR; rw [if_pos h]; try (cases readN (psF zs a).k (psF zs a).d <;> rfl)
  have hN : rpN zs a = (psF zs a).e := by unfold rpN; rw [if_pos h]
  unfold rpE at h
  by_cases hE : psE zs a = 0
  · simp only [hE, ne_eq, not_true, if_false] at h
    obtain ⟨m, n, hm, hmn, _, hdn, hk, hs, hdb, he, hf⟩ := ps_of hz hE
    cases hr : readN (psF zs a).k (psF zs a).d with
    | none => rw [hr] at h; simp at h
    | some r =>
      rw [hr] at h hR
      dsimp only at h hR
      obtain ⟨h1, h2, h3, _, _⟩ := rec_forth hdb hk hr h
      refine ⟨m, m + 21 + n, hm, by rw [hN, he]; omega, by omega, by omega, by rw [hR, rightN_s]; exact h, ?_⟩
      rw [hR]
      unfold makeN
      rw [rightN_s, if_pos h]
      dsimp only
      rw [show dataN { r with s := (psF zs a).s } = dataN r from rfl, h1, h2, hf, show m + 21 + n - m = n + 21 by omega]
  · rw [if_pos hE] at h
    exact absurd h hE
theorem rpR_da {zs : List Int} (hz : Byt zs) {a : Int} (h : rpE zs a = 0) : (rpR zs a).da.length ≤ zs.length := by
  have hR : rpR zs a = match readN (psF zs a).k (psF zs a).d with
    | none => rc0
    | some r => { r with s := (psF zs a).s } := by unfold rpR; rw [if_pos h]; try (cases readN (psF zs a).k (psF zs a).d <;> rfl)
  unfold rpE at h
  by_cases hE : psE zs a = 0
  · simp only [hE, ne_eq, not_true, if_false] at h
    obtain ⟨m, n, hm, hmn, _, hdn, hk, hs, hdb, he, hf⟩ := ps_of hz hE
    cases hr : readN (psF zs a).k (psF zs a).d with
    | none => rw [hr] at h; simp at h
    | some r =>
      rw [hr] at h hR
      dsimp only at h hR
      obtain ⟨h1, h2, h3, h4, _⟩ := rec_forth hdb hk hr h
      rw [hR]
      dsimp only
      have h5 := congrArg List.length h1
      unfold dataN at h5
      have h6 := rightN_k h
      have h7 := congrArg Rc.da h3
      unfold bareN at h7
      dsimp only at h7
      by_cases hk2 : r.k ≤ 2
      · rw [if_pos (by omega), List.length_append] at h5
        omega
      · rw [if_neg hk2] at h7
        rw [← h7]
        simp
  · rw [if_pos hE] at h
    exact absurd h hE
end Go.Proofs.Ytjdigncieoaglaa

namespace Go.Proofs.Ytjdigncieoaglaa
set_option linter.unusedVariables false

/-- a record that was read: where its frame stands -/
theorem rp_ext {zs : List Int} (hz : Byt zs) {a : Int} (h : rpE zs a = 0) :
    ∃ az es : List Int, zs = az ++ makeN (rpR zs a) ++ es ∧ a = (az.length : Int) ∧ (rpR zs a).Ok ∧ rightN (rpR zs a) = 0 ∧ bareN (rpR zs a) = rpR zs a ∧ (0 ≤ (rpR zs a).s ∧ (rpR zs a).s < 18446744073709551616) := by
  have hR : rpR zs a = match readN (psF zs a).k (psF zs a).d with
    | none => rc0
    | some r => { r with s := (psF zs a).s } := by unfold rpR; rw [if_pos h]; try (cases readN (psF zs a).k (psF zs a).d <;> rfl)
  have h' := h
  unfold rpE at h'
  by_cases hE : psE zs a = 0
  · simp only [hE, ne_eq, not_true, if_false] at h'
    obtain ⟨m, n, hm, hmn, _, hdn, hk, hs, hdb, he, hf⟩ := ps_of hz hE
    cases hr : readN (psF zs a).k (psF zs a).d with
    | none => rw [hr] at h'; simp at h'
    | some r =>
      rw [hr] at h' hR
      dsimp only at h' hR
      obtain ⟨h1, h2, h3, h4, _⟩ := rec_forth hdb hk hr h'
      have hri : rightN (rpR zs a) = 0 := by rw [hR, rightN_s]; exact h'
      have hmk : makeN (rpR zs a) = (zs.drop m).take (n + 21) := by
        rw [hR]
        unfold makeN
        rw [rightN_s, if_pos h']
        dsimp only
        rw [show dataN { r with s := (psF zs a).s } = dataN r from rfl, h1, h2, hf]
      refine ⟨zs.take m, zs.drop (m + (n + 21)), ?_, by rw [hm, List.length_take, Nat.min_eq_left (by omega)], ?_, hri, ?_, ?_⟩
      · rw [hmk, List.append_assoc, ← List.drop_drop, List.take_append_drop, List.take_append_drop]
      · rw [hR]
        exact ⟨h4.dg, h4.dgl, h4.nm, h4.da⟩
      · rw [hR]
        have e := congrArg (fun q : Rc => ({ q with s := (psF zs a).s } : Rc)) h3
        exact e
      · rw [hR]
        exact hs
  · rw [if_pos hE] at h'
    exact absurd h' hE
theorem rp_same {r : Rc} (hr : r.Ok) (h : rightN r = 0) (hb : bareN r = r) (hs : 0 ≤ r.s ∧ r.s < 18446744073709551616) (az es : List Int) :
    rpE (az ++ makeN r ++ es) (az.length : Int) = 0 ∧ rpR (az ++ makeN r ++ es) (az.length : Int) = r ∧ rpN (az ++ makeN r ++ es) (az.length : Int) = (az.length : Int) + (makeN r).length := by
  have h1 := rp_made_at hr h hs az es
  rw [hb] at h1
  exact h1
/-- what is read in a first part is read in the whole -/
theorem rp_more {zs : List Int} (hz : Byt zs) (es : List Int) {a : Int} (h : rpE zs a = 0) : rpE (zs ++ es) a = 0 ∧ rpR (zs ++ es) a = rpR zs a ∧ rpN (zs ++ es) a = rpN zs a := by
  obtain ⟨az, bs, hzs, ha, hok, hri, hba, hs⟩ := rp_ext hz h
  have h1 := rp_same hok hri hba hs az bs
  have h2 := rp_same hok hri hba hs az (bs ++ es)
  generalize hR : rpR zs a = R at *
  rw [← hzs, ← ha] at h1
  rw [← List.append_assoc, ← hzs, ← ha] at h2
  exact ⟨h2.1, h2.2.1, h2.2.2.trans h1.2.2.symm⟩
/-- .. and the other way round, if its frame ends in it -/
theorem rp_less {zs es : List Int} (hz : Byt (zs ++ es)) {a : Int} (h : rpE (zs ++ es) a = 0) (hn : rpN (zs ++ es) a ≤ zs.length) : rpE zs a = 0 := by
  obtain ⟨az, bs, hzs, ha, hok, hri, hba, hs⟩ := rp_ext hz h
  have h1 := rp_same hok hri hba hs az bs
  generalize hR : rpR (zs ++ es) a = R at *
  rw [← hzs, ← ha] at h1
  rw [h1.2.2, ha] at hn
  have hle : (az ++ makeN R).length ≤ zs.length := by rw [List.length_append]; omega
  have hp : az ++ makeN R = zs.take (az ++ makeN R).length := by
    have h3 : (zs ++ es).take (az ++ makeN R).length = (az ++ makeN R ++ bs).take (az ++ makeN R).length := by rw [← hzs]
    rw [List.take_left, List.take_append_of_le_length hle] at h3
    exact h3.symm
  have hz2 : zs = az ++ makeN R ++ zs.drop (az ++ makeN R).length := by
    have h5 := List.take_append_drop (az ++ makeN R).length zs
    rw [← hp] at h5
    exact h5.symm
  have h2 := rp_same hok hri hba hs az (zs.drop (az ++ makeN R).length)
  rw [← hz2, ← ha] at h2
  exact h2.1
/-- a batch that is read in a first part is read in the whole -/
theorem bp_more {zs : List Int} (es : List Int) (hz : Byt (zs ++ es)) (hz0 : Byt zs) (seg from_ : Int) : ∀ (f : Nat) (a : Int) (out : List Wd), need zs a ≤ f → (bpR zs seg from_ a out).err = 0 → bpR (zs ++ es) seg from_ a out = bpR zs seg from_ a out
  | 0, a, out, hf, _ => by unfold need at hf; omega
  | f + 1, a, out, hf, he => by
    rw [bpR_step hz, bpR_step hz0]
    rw [bpR_step hz0] at he
    by_cases h1 : rpE zs a = 0
    · obtain ⟨m1, m2, m3⟩ := rp_more hz0 es h1
      obtain ⟨ha, hn, hl⟩ := rp_next hz0 h1
      rw [if_neg (by rw [h1]; simp)] at he
      rw [m1, m2, m3, h1]
      simp only [ne_eq, not_true, if_false]
      by_cases h2 : out ≠ [] ∧ ((rpR zs a).s < 1 ∨ (rpR zs a).s - 1 ≠ lastS out)
      · rw [if_pos h2, if_pos h2]
      rw [if_neg h2] at he
      rw [if_neg h2, if_neg h2]
      by_cases h3 : (rpR zs a).k = 6 ∧ out ≠ [] ∧ (rpR zs a).n = out.length ∧ (rpR zs a).z = a - from_
      · rw [if_pos h3, if_pos h3]
      rw [if_neg h3] at he
      rw [if_neg h3, if_neg h3]
      by_cases h4 : (rpR zs a).k > 5
      · rw [if_pos h4, if_pos h4]
      rw [if_neg h4] at he
      rw [if_neg h4, if_neg h4]
      exact bp_more es hz hz0 seg from_ f _ _ (by unfold need at hf ⊢; omega) he
    · rw [if_pos h1] at he
      exact absurd he h1
/-- .. and the other way round, if it ends in it -/
theorem bp_end {zs : List Int} (hz : Byt zs) (seg from_ : Int) : ∀ (f : Nat) (a : Int) (out : List Wd), need zs a ≤ f → (bpR zs seg from_ a out).err = 0 → 0 ≤ a ∧ a + 21 ≤ (bpR zs seg from_ a out).e ∧ (bpR zs seg from_ a out).e ≤ zs.length ∧ (bpR zs seg from_ a out).ws ≠ []
  | 0, a, out, hf, _ => by unfold need at hf; omega
  | f + 1, a, out, hf, he => by
    rw [bpR_step hz] at he ⊢
    by_cases h1 : rpE zs a = 0
    · obtain ⟨ha, hn, hl⟩ := rp_next hz h1
      rw [if_neg (by rw [h1]; simp)] at he ⊢
      split
      · rename_i h2; rw [if_pos h2] at he; simp [bpNo] at he
      rename_i h2
      rw [if_neg h2] at he
      split
      · rename_i h3
        exact ⟨ha, hn, hl, h3.2.1⟩
      rename_i h3
      rw [if_neg h3] at he
      split
      · rename_i h4; rw [if_pos h4] at he; simp [bpNo] at he
      rename_i h4
      rw [if_neg h4] at he
      have IH := bp_end hz seg from_ f _ _ (by unfold need at hf ⊢; omega) he
      exact ⟨ha, by omega, IH.2.2.1, IH.2.2.2⟩
    · rw [if_pos h1] at he
      exact absurd he h1
theorem bp_less {zs es : List Int} (hz : Byt (zs ++ es)) (hz0 : Byt zs) (seg from_ : Int) : ∀ (f : Nat) (a : Int) (out : List Wd), need (zs ++ es) a ≤ f → (bpR (zs ++ es) seg from_ a out).err = 0 → (bpR (zs ++ es) seg from_ a out).e ≤ zs.length → bpR zs seg from_ a out = bpR (zs ++ es) seg from_ a out
  | 0, a, out, hf, _, _ => by unfold need at hf; omega
  | f + 1, a, out, hf, he, hle => by
    have hend := bp_end hz seg from_ (f + 1) a out hf he
    by_cases h1 : rpE (zs ++ es) a = 0
    · obtain ⟨ha, hn, hl⟩ := rp_next hz h1
      have hS := bpR_step hz seg from_ a out
      rw [if_neg (by rw [h1]; simp)] at hS
      rw [hS] at he hle ⊢
      have hT : rpE zs a = 0 → bpR zs seg from_ a out =
          if out ≠ [] ∧ ((rpR (zs ++ es) a).s < 1 ∨ (rpR (zs ++ es) a).s - 1 ≠ lastS out) then bpNo 3
          else if (rpR (zs ++ es) a).k = 6 ∧ out ≠ [] ∧ (rpR (zs ++ es) a).n = out.length ∧ (rpR (zs ++ es) a).z = a - from_ then ⟨out, rpN (zs ++ es) a, (rpR (zs ++ es) a).s, 0⟩
          else if (rpR (zs ++ es) a).k > 5 then bpNo 3
          else bpR zs seg from_ (rpN (zs ++ es) a) (out ++ [wordN (rpR (zs ++ es) a) seg a (rpN (zs ++ es) a - a)]) := fun h0 => by
        obtain ⟨m1, m2, m3⟩ := rp_more hz0 es h0
        have hQ := bpR_step hz0 seg from_ a out
        rw [if_neg (by rw [h0]; simp), ← m2, ← m3] at hQ
        exact hQ
      by_cases h2 : out ≠ [] ∧ ((rpR (zs ++ es) a).s < 1 ∨ (rpR (zs ++ es) a).s - 1 ≠ lastS out)
      · rw [if_pos h2] at he; simp [bpNo] at he
      rw [if_neg h2] at he hle ⊢
      by_cases h3 : (rpR (zs ++ es) a).k = 6 ∧ out ≠ [] ∧ (rpR (zs ++ es) a).n = out.length ∧ (rpR (zs ++ es) a).z = a - from_
      · rw [if_pos h3] at hle ⊢
        rw [hT (rp_less hz h1 hle), if_neg h2, if_pos h3]
      rw [if_neg h3] at he hle ⊢
      by_cases h4 : (rpR (zs ++ es) a).k > 5
      · rw [if_pos h4] at he; simp [bpNo] at he
      rw [if_neg h4] at he hle ⊢
      have hn2 : need (zs ++ es) (rpN (zs ++ es) a) ≤ f := by unfold need at hf ⊢; omega
      have hnx := bp_end hz seg from_ f _ _ hn2 he
      rw [hT (rp_less hz h1 (by omega)), if_neg h2, if_neg h3, if_neg h4]
      exact bp_less hz hz0 seg from_ f _ _ hn2 he hle
    · rw [bpR_step hz, if_pos h1] at he
      exact absurd he h1
end Go.Proofs.Ytjdigncieoaglaa

namespace Go.Proofs.Ytjdigncieoaglaa
set_option linter.unusedVariables false

/-- what a scan answers -/
structure Sc where
  ws : List Wd
  s : Int
  e : Int
  sealed_ : Bool
  at_ : Int
  err : Int
def firstS : List Wd → Int
  | [] => 0
  | w :: _ => w.s
def scGo : Nat → List Int → Int → List Wd → Int → Int → Sc
  | 0, _, _, ws, s, e => ⟨ws, s, e, false, e, 0⟩
  | f + 1, zs, n, ws, s, e =>
    if e < zs.length then
      if rpE zs e = 0 ∧ (rpR zs e).k = 8 then
        if (rpR zs e).s ≤ s ∨ (rpR zs e).n ≠ ws.length ∨ (rpR zs e).z ≠ e ∨ rpN zs e ≠ zs.length then ⟨ws, s, e, false, e, 3⟩
        else ⟨ws, (rpR zs e).s, rpN zs e, true, rpN zs e, 0⟩
      else if (bpF zs e n).err ≠ 0 then ⟨ws, s, e, false, e, (bpF zs e n).err⟩
      else if firstS (bpF zs e n).ws ≤ s then ⟨ws, s, e, false, e, 3⟩
      else scGo f zs n (ws ++ (bpF zs e n).ws) (bpF zs e n).s (bpF zs e n).e
    else ⟨ws, s, e, false, e, 0⟩
def scNo (err : Int) : Sc := ⟨[], 0, 0, false, 0, err⟩
def scF (zs : List Int) (n : Int) : Sc :=
  if rpE zs 0 ≠ 0 then scNo (rpE zs 0)
  else if (rpR zs 0).k ≠ 7 ∨ (rpR zs 0).n ≠ n then scNo 3
  else scGo (zs.length + 1) zs n [] (rpR zs 0).s (rpN zs 0)
/-- where a batch that was read ends; its first record is none of the eight's last three -/
theorem bpF_end {zs : List Int} (hz : Byt zs) {a seg : Int} (h : (bpF zs a seg).err = 0) : 0 ≤ a ∧ a + 21 ≤ (bpF zs a seg).e ∧ (bpF zs a seg).e ≤ zs.length := by
  rw [bpF_start hz] at h ⊢
  obtain ⟨h1, h2, h3, _⟩ := bp_end hz seg a (need zs a) a [] (Nat.le_refl _) h
  exact ⟨h1, h2, h3⟩
theorem bpF_first {zs : List Int} (hz : Byt zs) {a seg : Int} (h : (bpF zs a seg).err = 0) : rpE zs a = 0 ∧ (rpR zs a).k ≤ 5 := by
  rw [bpF_start hz, bpR_step hz] at h
  by_cases h1 : rpE zs a = 0
  · rw [if_neg (by rw [h1]; simp), if_neg (by simp), if_neg (by simp)] at h
    refine ⟨h1, ?_⟩
    by_cases h4 : (rpR zs a).k > 5
    · rw [if_pos h4] at h; simp [bpNo] at h
    · omega
  · rw [if_pos h1] at h
    exact absurd h h1
theorem bpF_more {zs : List Int} (es : List Int) (hz : Byt (zs ++ es)) (hz0 : Byt zs) {a seg : Int} (h : (bpF zs a seg).err = 0) : bpF (zs ++ es) a seg = bpF zs a seg := by
  rw [bpF_start hz0] at h ⊢
  rw [bpF_start hz]
  exact bp_more es hz hz0 seg a _ a [] (Nat.le_refl _) h
theorem bpF_less {zs es : List Int} (hz : Byt (zs ++ es)) (hz0 : Byt zs) {a seg : Int} (h : (bpF (zs ++ es) a seg).err = 0) (hl : (bpF (zs ++ es) a seg).e ≤ zs.length) : bpF zs a seg = bpF (zs ++ es) a seg := by
  rw [bpF_start hz] at h hl ⊢
  rw [bpF_start hz0]
  exact bp_less hz hz0 seg a _ a [] (Nat.le_refl _) h hl
theorem scGo_fuel {zs : List Int} (hz : Byt zs) (n : Int) : ∀ (f g : Nat) (ws : List Wd) (s e : Int), need zs e ≤ f → need zs e ≤ g → scGo f zs n ws s e = scGo g zs n ws s e
  | 0, _, _, _, _, h, _ => by unfold need at h; omega
  | _, 0, _, _, _, _, h => by unfold need at h; omega
  | f + 1, g + 1, ws, s, e, hf, hg => by
    unfold scGo
    split
    · split
      · rfl
      · split
        · rfl
        rename_i h3
        split
        · rfl
        · have h0 : (bpF zs e n).err = 0 := Decidable.of_not_not h3
          obtain ⟨h1, h2, h4⟩ := bpF_end hz h0
          exact scGo_fuel hz n f g _ _ _ (by unfold need at hf ⊢; omega) (by unfold need at hg ⊢; omega)
    · rfl
/-- what is scanned, from a place on -/
def scR (zs : List Int) (n : Int) (ws : List Wd) (s e : Int) : Sc := scGo (need zs e) zs n ws s e
theorem scR_step {zs : List Int} (hz : Byt zs) (n : Int) (ws : List Wd) (s e : Int) : scR zs n ws s e =
    if e < zs.length then
      if rpE zs e = 0 ∧ (rpR zs e).k = 8 then
        if (rpR zs e).s ≤ s ∨ (rpR zs e).n ≠ ws.length ∨ (rpR zs e).z ≠ e ∨ rpN zs e ≠ zs.length then ⟨ws, s, e, false, e, 3⟩
        else ⟨ws, (rpR zs e).s, rpN zs e, true, rpN zs e, 0⟩
      else if (bpF zs e n).err ≠ 0 then ⟨ws, s, e, false, e, (bpF zs e n).err⟩
      else if firstS (bpF zs e n).ws ≤ s then ⟨ws, s, e, false, e, 3⟩
      else scR zs n (ws ++ (bpF zs e n).ws) (bpF zs e n).s (bpF zs e n).e
    else ⟨ws, s, e, false, e, 0⟩ := by
  have q : scR zs n ws s e = scGo (((zs.length : Int) - e).toNat + 1) zs n ws s e := rfl
  rw [q]
  unfold scGo
  split
  · split
    · rfl
    · split
      · rfl
      rename_i h3
      split
      · rfl
      · have h0 : (bpF zs e n).err = 0 := Decidable.of_not_not h3
        obtain ⟨h1, h2, h4⟩ := bpF_end hz h0
        unfold scR
        exact scGo_fuel hz n _ _ _ _ _ (by unfold need; omega) (Nat.le_refl _)
  · rfl
theorem scF_start {zs : List Int} (hz : Byt zs) (n : Int) : scF zs n =
    if rpE zs 0 ≠ 0 then scNo (rpE zs 0)
    else if (rpR zs 0).k ≠ 7 ∨ (rpR zs 0).n ≠ n then scNo 3
    else scR zs n [] (rpR zs 0).s (rpN zs 0) := by
  unfold scF
  split
  · rfl
  rename_i h1
  obtain ⟨_, h2, h3⟩ := rp_next hz (Decidable.of_not_not h1)
  split
  · rfl
  · unfold scR
    exact scGo_fuel hz n _ _ _ _ _ (by unfold need; omega) (Nat.le_refl _)
/-- what a scan has found stays; it ends no earlier than it began, and within -/
theorem scR_grows {zs : List Int} (hz : Byt zs) (n : Int) : ∀ (f : Nat) (ws : List Wd) (s e : Int), need zs e ≤ f → e ≤ zs.length → (∃ more, (scR zs n ws s e).ws = ws ++ more) ∧ e ≤ (scR zs n ws s e).e ∧ (scR zs n ws s e).e ≤ zs.length
  | 0, _, _, _, h, _ => by unfold need at h; omega
  | f + 1, ws, s, e, hf, hle => by
    rw [scR_step hz]
    split
    · split
      · rename_i h2
        obtain ⟨_, h4, h5⟩ := rp_next hz h2.1
        split
        · exact ⟨⟨[], by simp⟩, Int.le_refl _, hle⟩
        · exact ⟨⟨[], by simp⟩, by show e ≤ rpN zs e; omega, h5⟩
      · split
        · exact ⟨⟨[], by simp⟩, Int.le_refl _, hle⟩
        rename_i h3
        split
        · exact ⟨⟨[], by simp⟩, Int.le_refl _, hle⟩
        · have h0 : (bpF zs e n).err = 0 := Decidable.of_not_not h3
          obtain ⟨h1, h2, h4⟩ := bpF_end hz h0
          obtain ⟨⟨more, hm⟩, h5, h6⟩ := scR_grows hz n f (ws ++ (bpF zs e n).ws) (bpF zs e n).s (bpF zs e n).e (by unfold need at hf ⊢; omega) h4
          exact ⟨⟨(bpF zs e n).ws ++ more, by rw [hm, List.append_assoc]⟩, by omega, h6⟩
    · exact ⟨⟨[], by simp⟩, Int.le_refl _, hle⟩
/-- a scan of a first part finds a first part -/
theorem scR_more {zs : List Int} (es : List Int) (hz : Byt (zs ++ es)) (hz0 : Byt zs) (n : Int) : ∀ (f : Nat) (ws : List Wd) (s e : Int), need zs e ≤ f → e ≤ zs.length → ∃ more, (scR (zs ++ es) n ws s e).ws = (scR zs n ws s e).ws ++ more
  | 0, _, _, _, h, _ => by unfold need at h; omega
  | f + 1, ws, s, e, hf, hle => by
    have hg := (scR_grows hz n (need (zs ++ es) e) ws s e (Nat.le_refl _) (by rw [List.length_append]; omega)).1
    rw [scR_step hz0]
    split
    · split
      · split
        · exact hg
        · exact hg
      · split
        · exact hg
        rename_i h3
        split
        · exact hg
        rename_i h5
        have h0 : (bpF zs e n).err = 0 := Decidable.of_not_not h3
        obtain ⟨h1, h2, h4⟩ := bpF_end hz0 h0
        obtain ⟨h6, h7⟩ := bpF_first hz0 h0
        obtain ⟨m1, m2, m3⟩ := rp_more hz0 es h6
        have hb := bpF_more es hz hz0 h0
        rw [scR_step hz, if_pos (by rw [List.length_append]; omega), if_neg (by rw [m2]; omega), hb, if_neg h3, if_neg h5]
        exact scR_more es hz hz0 n f _ _ _ (by unfold need at hf ⊢; omega) h4
    · exact hg
/-- what was found is found alone when the rest is cut off -/
theorem scR_cut {zs es : List Int} (hz : Byt (zs ++ es)) (hz0 : Byt zs) (n : Int) : ∀ (f : Nat) (ws : List Wd) (s e : Int), need (zs ++ es) e ≤ f → e ≤ zs.length → (scR (zs ++ es) n ws s e).e = zs.length →
    (scR zs n ws s e).err = 0 ∧ (scR zs n ws s e).e = zs.length ∧ (scR zs n ws s e).ws = (scR (zs ++ es) n ws s e).ws ∧ (scR zs n ws s e).s = (scR (zs ++ es) n ws s e).s
  | 0, _, _, _, h, _, _ => by unfold need at h; omega
  | f + 1, ws, s, e, hf, hle, hq => by
    have hat : ∀ ws s, e = zs.length → scR zs n ws s e = ⟨ws, s, e, false, e, 0⟩ := fun ws s he => by
      rw [scR_step hz0, if_neg (by omega)]
    rw [scR_step hz] at hq ⊢
    by_cases h1 : e < (zs ++ es).length
    · rw [if_pos h1] at hq ⊢
      by_cases h2 : rpE (zs ++ es) e = 0 ∧ (rpR (zs ++ es) e).k = 8
      · rw [if_pos h2] at hq ⊢
        obtain ⟨_, h8, h9⟩ := rp_next hz h2.1
        by_cases h3 : (rpR (zs ++ es) e).s ≤ s ∨ (rpR (zs ++ es) e).n ≠ ws.length ∨ (rpR (zs ++ es) e).z ≠ e ∨ rpN (zs ++ es) e ≠ (zs ++ es).length
        · rw [if_pos h3] at hq ⊢
          rw [hat ws s hq]
          exact ⟨rfl, hq, rfl, rfl⟩
        · rw [if_neg h3] at hq ⊢
          have he : es = [] := by
            have h4 : rpN (zs ++ es) e = (zs ++ es).length := by
              by_cases h5 : rpN (zs ++ es) e = (zs ++ es).length
              · exact h5
              · exact absurd (Or.inr (Or.inr (Or.inr h5))) h3
            have h5 : rpN (zs ++ es) e = zs.length := hq
            rw [List.length_append] at h4
            exact List.length_eq_zero_iff.1 (by omega)
          subst he
          rw [List.append_nil] at *
          rw [scR_step hz0, if_pos h1, if_pos h2, if_neg h3]
          exact ⟨rfl, hq, rfl, rfl⟩
      · rw [if_neg h2] at hq ⊢
        by_cases h3 : (bpF (zs ++ es) e n).err ≠ 0
        · rw [if_pos h3] at hq ⊢
          rw [hat ws s hq]
          exact ⟨rfl, hq, rfl, rfl⟩
        · rw [if_neg h3] at hq ⊢
          by_cases h4 : firstS (bpF (zs ++ es) e n).ws ≤ s
          · rw [if_pos h4] at hq ⊢
            rw [hat ws s hq]
            exact ⟨rfl, hq, rfl, rfl⟩
          · rw [if_neg h4] at hq ⊢
            have h0 : (bpF (zs ++ es) e n).err = 0 := Decidable.of_not_not h3
            obtain ⟨b1, b2, b3⟩ := bpF_end hz h0
            have hgr := scR_grows hz n (need (zs ++ es) (bpF (zs ++ es) e n).e) (ws ++ (bpF (zs ++ es) e n).ws) (bpF (zs ++ es) e n).s (bpF (zs ++ es) e n).e (Nat.le_refl _) b3
            have hbl : (bpF (zs ++ es) e n).e ≤ zs.length := by omega
            have hb := bpF_less hz hz0 h0 hbl
            have hb0 : (bpF zs e n).err = 0 := by rw [hb]; exact h0
            obtain ⟨h6, h7⟩ := bpF_first hz0 hb0
            rw [scR_step hz0, if_pos (by omega), if_neg (by omega), hb, if_neg h3, if_neg h4]
            exact scR_cut hz hz0 n f _ _ _ (by unfold need at hf ⊢; omega) hbl hq
    · rw [if_neg h1] at hq ⊢
      rw [hat ws s hq]
      exact ⟨rfl, hq, rfl, rfl⟩
theorem scF_more {zs : List Int} (es : List Int) (hz : Byt (zs ++ es)) (hz0 : Byt zs) (n : Int) : (∃ more, (scF (zs ++ es) n).ws = (scF zs n).ws ++ more) ∧ (scF zs n).e ≤ zs.length := by
  rw [scF_start hz0]
  split
  · exact ⟨⟨_, rfl⟩, by show (0 : Int) ≤ _; omega⟩
  rename_i h1
  have h0 : rpE zs 0 = 0 := Decidable.of_not_not h1
  obtain ⟨_, h2, h3⟩ := rp_next hz0 h0
  split
  · exact ⟨⟨_, rfl⟩, by show (0 : Int) ≤ _; omega⟩
  rename_i h4
  obtain ⟨m1, m2, m3⟩ := rp_more hz0 es h0
  rw [scF_start hz, if_neg (by rw [m1]; simp), m2, m3, if_neg h4]
  exact ⟨scR_more es hz hz0 n _ _ _ _ (Nat.le_refl _) h3, (scR_grows hz0 n _ _ _ _ (Nat.le_refl _) h3).2.2⟩
theorem scF_cut {zs es : List Int} (hz : Byt (zs ++ es)) (hz0 : Byt zs) (n : Int) (hne : (scF (zs ++ es) n).e ≠ 0) (hq : (scF (zs ++ es) n).e = zs.length) :
    (scF zs n).err = 0 ∧ (scF zs n).e = zs.length ∧ (scF zs n).ws = (scF (zs ++ es) n).ws ∧ (scF zs n).s = (scF (zs ++ es) n).s := by
  rw [scF_start hz] at hne hq ⊢
  by_cases h1 : rpE (zs ++ es) 0 = 0
  · rw [if_neg (by rw [h1]; simp)] at hne hq ⊢
    by_cases h4 : (rpR (zs ++ es) 0).k ≠ 7 ∨ (rpR (zs ++ es) 0).n ≠ n
    · rw [if_pos h4] at hne
      exact absurd rfl hne
    · rw [if_neg h4] at hne hq ⊢
      obtain ⟨_, h2, h3⟩ := rp_next hz h1
      have hgr := scR_grows hz n _ [] (rpR (zs ++ es) 0).s (rpN (zs ++ es) 0) (Nat.le_refl _) h3
      have hl : rpN (zs ++ es) 0 ≤ zs.length := by omega
      have h0 := rp_less hz h1 hl
      obtain ⟨m1, m2, m3⟩ := rp_more hz0 es h0
      rw [scF_start hz0, if_neg (by rw [h0]; simp), ← m2, ← m3, if_neg h4]
      exact scR_cut hz hz0 n _ _ _ _ (Nat.le_refl _) hl hq
  · rw [if_pos h1] at hne
    exact absurd rfl hne
end Go.Proofs.Ytjdigncieoaglaa

namespace Go.Proofs.Ytjdigncieoaglaa
set_option linter.unusedVariables false

/-- records with their numbers and their places -/
def recPos : List Rc → Int → Int → List (Rc × Int)
  | [], _, _ => []
  | r :: l, s, a => (r.num s, a) :: recPos l (s + 1) (a + (makeN (r.num s)).length)
def posW (n : Int) (l : List (Rc × Int)) : List Wd := l.map fun p => wordN (bareN p.1) n p.2 (makeN p.1).length
theorem posW_append (n : Int) (l m : List (Rc × Int)) : posW n (l ++ m) = posW n l ++ posW n m := List.map_append
theorem wordsN_pos (l : List Rc) (s n a : Int) : wordsN l s n a = posW n (recPos l s a) := by
  induction l generalizing s a with
  | nil => rfl
  | cons r l ih =>
    unfold wordsN recPos posW
    rw [List.map_cons, ih]
    rfl
/-- batches, one behind the other, from a number on -/
def segN : List (List Rc) → Int → List Int
  | [], _ => []
  | l :: ls, s => batN l s ++ segN ls (s + l.length + 1)
def segPos : List (List Rc) → Int → Int → List (Rc × Int)
  | [], _, _ => []
  | l :: ls, s, a => recPos l s a ++ segPos ls (s + l.length + 1) (a + (batN l s).length)
/-- the number behind them -/
def segS : List (List Rc) → Int → Int
  | [], s => s
  | l :: ls, s => segS ls (s + l.length + 1)
def segM : List (List Rc) → Nat
  | [] => 0
  | l :: ls => l.length + segM ls
theorem recPos_length (l : List Rc) (s a : Int) : (recPos l s a).length = l.length := by
  induction l generalizing s a with
  | nil => rfl
  | cons r l ih => simp [recPos, ih]
theorem segPos_length (ls : List (List Rc)) (s a : Int) : (segPos ls s a).length = segM ls := by
  induction ls generalizing s a with
  | nil => rfl
  | cons l ls ih => simp [segPos, segM, ih, recPos_length]
theorem posW_length (n : Int) (l : List (Rc × Int)) : (posW n l).length = l.length := List.length_map _
theorem segS_le (ls : List (List Rc)) (s : Int) : s ≤ segS ls s := by
  induction ls generalizing s with
  | nil => exact Int.le_refl _
  | cons l ls ih =>
    have := ih (s + l.length + 1)
    unfold segS
    omega
/-- batches that can be made -/
structure BatOk (l : List Rc) : Prop where
  ok : ∀ r ∈ l, r.Ok
  wrong : wrongN l = 0
  len : l.length < 4294967296
  fr : (framesN l 0).length < 4294967296
theorem firstS_words {l : List Rc} (h : l ≠ []) (s n a : Int) : firstS (wordsN l s n a) = s := by
  cases l with
  | nil => exact absurd rfl h
  | cons r l =>
    show (wordN (bareN (r.num s)) n a _).s = s
    rw [wordN_s, bareN_num_s]
theorem scR_back (n : Int) (es : List Int) (hes : Byt es) : ∀ (ls : List (List Rc)) (s : Int) (az : List Int) (ws : List Wd), Byt az → (∀ l ∈ ls, BatOk l) → 1 ≤ s → segS ls s ≤ 18446744073709551615 →
    scR (az ++ segN ls s ++ es) n ws (s - 1) (az.length : Int) = scR (az ++ segN ls s ++ es) n (ws ++ posW n (segPos ls s (az.length : Int))) (segS ls s - 1) ((az.length : Int) + (segN ls s).length)
  | [], s, az, ws, hb, hl, h1, h2 => by simp [segN, segPos, segS, posW]
  | l :: ls, s, az, ws, hb, hl, h1, h2 => by
    have hbo := hl l (by simp)
    have hls := segS_le ls (s + l.length + 1)
    have h2' : segS ls (s + l.length + 1) ≤ 18446744073709551615 := h2
    have hbatb : Byt (batN l s) := batN_byt hbo.ok s
    have hsegb : ∀ (ms : List (List Rc)) (t : Int), (∀ l ∈ ms, BatOk l) → Byt (segN ms t) := by
      intro ms
      induction ms with
      | nil => intro t _; exact Byt.nil
      | cons m ms ih => intro t hm; exact (batN_byt (hm m (by simp)).ok t).app (ih _ fun x hx => hm x (by simp [hx]))
    have hz : Byt (az ++ segN (l :: ls) s ++ es) := (hb.app (hsegb _ _ hl)).app hes
    have e1 : az ++ segN (l :: ls) s ++ es = az ++ batN l s ++ (segN ls (s + l.length + 1) ++ es) := by simp [segN, List.append_assoc]
    have e2 : az ++ segN (l :: ls) s ++ es = (az ++ batN l s) ++ segN ls (s + l.length + 1) ++ es := by simp [segN, List.append_assoc]
    have hbk := bat_back (l := l) (s := s) hbo.ok hbo.wrong (by omega) (by omega) (by rw [framesN_length l s 0]; exact hbo.fr) hbo.len az (segN ls (s + l.length + 1) ++ es) n
    rw [← e1] at hbk
    have hE : (bpF (az ++ segN (l :: ls) s ++ es) (az.length : Int) n).err = 0 := by rw [hbk]
    obtain ⟨_, b2, b3⟩ := bpF_end hz hE
    obtain ⟨_, b5⟩ := bpF_first hz hE
    rw [scR_step hz, if_pos (by omega), if_neg (by omega), hbk]
    rw [if_neg (by simp)]
    dsimp only
    rw [if_neg (by rw [firstS_words (wrongN_zero hbo.wrong).1]; omega)]
    have ha : (az.length : Int) + (batN l s).length = ((az ++ batN l s).length : Nat) := by simp
    have IH := scR_back n es hes ls (s + l.length + 1) (az ++ batN l s) (ws ++ wordsN l s n az.length) (hb.app hbatb) (fun m hm => hl m (by simp [hm])) (by omega) h2'
    rw [show s + (l.length : Int) + 1 - 1 = s + l.length by omega] at IH
    rw [ha, e2, IH]
    have hw : ws ++ wordsN l s n az.length ++ posW n (segPos ls (s + l.length + 1) ((az ++ batN l s).length : Nat)) = ws ++ posW n (segPos (l :: ls) s az.length) := by
      rw [wordsN_pos, List.append_assoc, ← posW_append, ← ha]
      rfl
    have hlen : (((az ++ batN l s).length : Nat) : Int) + (segN ls (s + l.length + 1)).length = (az.length : Int) + (segN (l :: ls) s).length := by
      simp [segN]; omega
    rw [hw, hlen]
    rfl
def headN (n s : Int) : Rc := ⟨7, s, dg0, [], [], n, 0⟩
def footN (s m z : Int) : Rc := ⟨8, s, dg0, [], [], m, z⟩
theorem headN_ok (n s : Int) : (headN n s).Ok := ⟨dg0_byt, by simp [headN, dg0], Byt.nil, Byt.nil⟩
theorem footN_ok (s m z : Int) : (footN s m z).Ok := ⟨dg0_byt, by simp [footN, dg0], Byt.nil, Byt.nil⟩
theorem bare_head (n s : Int) : bareN (headN n s) = headN n s := by
  unfold bareN headN
  simp
theorem bare_foot (s m z : Int) : bareN (footN s m z) = footN s m z := by
  unfold bareN footN
  simp
theorem segN_byt : ∀ (ls : List (List Rc)) (s : Int), (∀ l ∈ ls, BatOk l) → Byt (segN ls s)
  | [], _, _ => Byt.nil
  | l :: ls, s, h => (batN_byt (h l (by simp)).ok s).app (segN_byt ls _ fun x hx => h x (by simp [hx]))
/-- a segment without a footer -/
theorem seg_open {n s : Int} {ls : List (List Rc)} (hh : rightN (headN n s) = 0) (h0 : 0 ≤ s) (hl : ∀ l ∈ ls, BatOk l) (h2 : segS ls (s + 1) ≤ 18446744073709551615) :
    scF (makeN (headN n s) ++ segN ls (s + 1)) n = ⟨posW n (segPos ls (s + 1) (makeN (headN n s)).length), segS ls (s + 1) - 1, (makeN (headN n s)).length + (segN ls (s + 1)).length, false, (makeN (headN n s)).length + (segN ls (s + 1)).length, 0⟩ := by
  have hle := segS_le ls (s + 1)
  have hz : Byt (makeN (headN n s) ++ segN ls (s + 1)) := (makeN_byt (headN_ok n s)).app (segN_byt ls _ hl)
  have h1 := rp_same (headN_ok n s) hh (bare_head n s) ⟨h0, by show s < _; omega⟩ [] (segN ls (s + 1))
  simp only [List.nil_append, List.length_nil, Int.natCast_zero, Int.zero_add] at h1
  obtain ⟨m1, m2, m3⟩ := h1
  rw [scF_start hz, if_neg (by rw [m1]; simp), m2, m3, if_neg (by show ¬ ((7 : Int) ≠ 7 ∨ n ≠ n); simp)]
  have hb := scR_back n [] Byt.nil ls (s + 1) (makeN (headN n s)) [] (makeN_byt (headN_ok n s)) hl (by omega) h2
  rw [List.append_nil, List.nil_append, show s + 1 - 1 = s by omega] at hb
  rw [show (headN n s).s = s from rfl, hb, scR_step hz, if_neg (by rw [List.length_append]; omega)]
/-- .. with one -/
theorem seg_sealed {n s : Int} {ls : List (List Rc)} (hh : rightN (headN n s) = 0) (h0 : 0 ≤ s) (hl : ∀ l ∈ ls, BatOk l) (h2 : segS ls (s + 1) ≤ 18446744073709551615) {F : List Int}
    (hf : rightN (footN (segS ls (s + 1)) (segM ls) ((makeN (headN n s) ++ segN ls (s + 1)).length)) = 0) (hF : F = makeN (footN (segS ls (s + 1)) (segM ls) ((makeN (headN n s) ++ segN ls (s + 1)).length))) :
    scF (makeN (headN n s) ++ segN ls (s + 1) ++ F) n = ⟨posW n (segPos ls (s + 1) (makeN (headN n s)).length), segS ls (s + 1), (makeN (headN n s) ++ segN ls (s + 1) ++ F).length, true, (makeN (headN n s) ++ segN ls (s + 1) ++ F).length, 0⟩ := by
  have hle := segS_le ls (s + 1)
  have hfo := footN_ok (segS ls (s + 1)) (segM ls) ((makeN (headN n s) ++ segN ls (s + 1)).length)
  have hFb : Byt F := by rw [hF]; exact makeN_byt hfo
  have hz : Byt (makeN (headN n s) ++ segN ls (s + 1) ++ F) := ((makeN_byt (headN_ok n s)).app (segN_byt ls _ hl)).app hFb
  have h1 := rp_same (headN_ok n s) hh (bare_head n s) ⟨h0, by show s < _; omega⟩ [] (segN ls (s + 1) ++ F)
  simp only [List.nil_append, List.length_nil, Int.natCast_zero, Int.zero_add] at h1
  rw [← List.append_assoc] at h1
  obtain ⟨m1, m2, m3⟩ := h1
  rw [scF_start hz, if_neg (by rw [m1]; simp), m2, m3, if_neg (by show ¬ ((7 : Int) ≠ 7 ∨ n ≠ n); simp)]
  have hb := scR_back n F hFb ls (s + 1) (makeN (headN n s)) [] (makeN_byt (headN_ok n s)) hl (by omega) h2
  rw [List.nil_append, show s + 1 - 1 = s by omega] at hb
  have h3 := rp_same hfo hf (bare_foot _ _ _) ⟨by show 0 ≤ segS ls (s + 1); omega, by show segS ls (s + 1) < _; omega⟩ (makeN (headN n s) ++ segN ls (s + 1)) []
  rw [← hF, List.append_nil] at h3
  obtain ⟨f1, f2, f3⟩ := h3
  have hlen : ((makeN (headN n s)).length : Int) + (segN ls (s + 1)).length = ((makeN (headN n s) ++ segN ls (s + 1)).length : Nat) := by simp
  have hFl : 0 < F.length := by
    rw [hF, makeN_len hf]
    omega
  have hend : (((makeN (headN n s) ++ segN ls (s + 1)).length : Nat) : Int) + (F.length : Int) = ((makeN (headN n s) ++ segN ls (s + 1) ++ F).length : Nat) := by simp; omega
  have hwl : ((posW n (segPos ls (s + 1) (makeN (headN n s)).length)).length : Int) = segM ls := by rw [posW_length, segPos_length]
  rw [show (headN n s).s = s from rfl, hb, hlen, scR_step hz, if_pos (by rw [← hend]; omega), if_pos ⟨f1, by rw [f2]; rfl⟩, f2, f3, hend]
  rw [if_neg]
  · rfl
  · rintro (h | h | h | h)
    · have h' : segS ls (s + 1) ≤ segS ls (s + 1) - 1 := h
      omega
    · exact h hwl.symm
    · exact h rfl
    · exact h rfl
end Go.Proofs.Ytjdigncieoaglaa

namespace Go.Proofs.Ytjdigncieoaglaa
set_option linter.unusedVariables false
open Go.RowKit Go.Lib

set_option maxRecDepth 100000 in
set_option maxHeartbeats 4000000 in
theorem rbareQ_any (x : Rq) (w : World) (hx : x.Fit w) (hk : 1 ≤ x.k ∧ x.k ≤ 8) :
    Calls Try.prog 17 #[x.v] w fun e w' => ∃ y : Rq, e = .returned y.v ∧ y.Fit w' ∧ y.rc = bareN x.rc ∧ Below w.heap.size w w' ∧ y = bareQ x := by
  obtain ⟨wA, hA, hm, hb, c0, c1, c34, c35, c36, c37⟩ := box_rec w x hx.dg.1
  have hsA : wA.heap.size = w.heap.size + 1 := by rw [← hA]; simp
  have HX := Lib.hid hx
  have HBX := Lib.hid fun W (hW : W.heap[w.heap.size]? = wA.heap[w.heap.size]?) => show Rm W w.heap.size x from Mx.keep hm hW
  have HB := Lib.hid hb
  have HSA := Lib.hid hsA
  have HNW : Hid (∀ Z : Obj, ((wA.alloc Z).alloc Z).heap[w.heap.size + 1 + 1]? = some Z) := Lib.hid fun Z => by rw [← hsA]; exact heap_alloc2_new _ _ _
  have HFT := Lib.hid fun W (hW : Below w.heap.size w W) => hx.later hW
  have HBN := Lib.hid (show bareN x.rc = _ from rfl)
  unfold bareN Rq.rc at HBN
  dsimp only at HBN
  generalize hBN : bareN x.rc = R at *
  replace HBN : Hid (R = ⟨x.k, x.s, if x.k ≤ 3 ∨ x.k = 5 then x.dg else dg0, if x.k = 3 ∨ x.k = 4 then numsOf x.nm else [], if x.k ≤ 2 then x.da else [], if x.k ≥ 6 then x.N else 0, if x.k = 6 ∨ x.k = 8 then x.Z else 0⟩) := Lib.hid (by rw [← hBN]; rfl)
  have HD := Lib.hid hx.dg
  have hs := hx.s
  have hN := hx.N
  have hZ := hx.Z
  unfold Rq.v
  obtain ⟨k, s, dg, nm, p, n, c, da, N, Z⟩ := x
  dsimp only at *
  generalize hM : mixC _ _ _ = M at *
  clear hM hx hm hb c34 c35 c36 c37 hBN
  go_enter Try.func17, Try.ntmps17
  go_upto_region 3 with (first
    | (refine wpList_build_is rfl 29 _ rfl (mixC (rqKS k s).a (rqKS k s).dg (rqKS k s).z) ?_ ?_; kernel_rfl)
    | (refine wpList_store_row rfl 29 _ _ rfl (w.heap.size + 1 + 1) _ rfl rfl 29 _ (HNW.out _) ((rqKS k s).sizeOf rfl) (Rq.sizes rq0 (rqKS k s) rfl rfl) (rqKS k s).one ?_; generalize hwS : World.setRow _ _ _ = wS))
  have HR0 : Hid (Rd w wS (w.heap.size + 1) (w.heap.size + 1 + 1) rq0 (rqKS k s)) := Lib.hid (by
    rw [← hwS]
    have h1 : Rd wA ((wA.alloc (.cells (mixC rq0.a rq0.dg rq0.z) 29)).alloc (.cells (mixC rq0.a rq0.dg rq0.z) 29)) wA.heap.size (wA.heap.size + 1) rq0 rq0 := Rd.start wA
    rw [HSA.out] at h1
    exact Rd.put ⟨h1.ne, by omega, by omega, h1.out, h1.own, below_step HB.out h1.le, h1.dy, h1.dx⟩ (rqKS k s) rfl)
  have HK0 : Hid (wS.heap[w.heap.size]? = wA.heap[w.heap.size]?) := Lib.hid (by rw [keep_row hwS _ (by omega), heap_alloc_old _ _ (by simp; rw [HSA.out]; omega), heap_alloc_old _ _ (by rw [HSA.out]; omega)])
  clear hwS c0 c1
  rcases kinds (k := k) with h | h | rfl | rfl | rfl | rfl | rfl | rfl | rfl | rfl
  · omega
  · omega
  · have HC0 := Lib.hid ((HBX.out wS HK0.out).cells HX.out.dg.1)
    have HLD := Lib.hid (Mx.loadDig (P := Try.prog) (HBX.out wS HK0.out) 27 Try.underlying27 rfl (by rw [HX.out.dg.1]; exact size32) 2 rfl)
    have HTH : Hid (wS.there (w.heap.size + 1 + 1) 2 (bcs dg).size) := Lib.hid (by rw [bcs_size, HD.out.1]; exact Mx.there HR0.out.own 2 32 (by rw [HR0.out.dx]; simp [Rq.a, Rq.z]))
    obtain ⟨w1, hw1⟩ : ∃ W, wS.setCells (w.heap.size + 1 + 1) 2 (bcs dg).toList = W := ⟨_, rfl⟩
    have HK1 : Hid (w1.heap[w.heap.size]? = wA.heap[w.heap.size]?) := Lib.hid ((keep_cells hw1 _ (by omega)).trans HK0.out)
    have HW1 := Lib.hid hw1
    obtain ⟨X1, hX1⟩ : ∃ X, { (rqKS 1 s) with dg := dg } = X := ⟨_, rfl⟩
    have HR1 : Hid (Rd w w1 (w.heap.size + 1) (w.heap.size + 1 + 1) rq0 X1) := Lib.hid (by rw [← hw1, ← hX1]; exact HR0.out.setDg dg HD.out.1)
    have HX1 := Lib.hid hX1
    clear hw1
    clear hX1
    have g2 := ((HBX.out w1 HK1.out).cells HX.out.dg.1).2.2.2.1
    have cl2 := (HR1.out.own.cells HR1.out.dx).2.2.2.1
    have fr2 := HR1.out.own.frozen 35
    obtain ⟨w2, hw2⟩ : ∃ W, w1.setCell ⟨w.heap.size + 1 + 1, 35, none⟩ (.slice p n c) = W := ⟨_, rfl⟩
    have HK2 : Hid (w2.heap[w.heap.size]? = wA.heap[w.heap.size]?) := Lib.hid ((keep_cell hw2 _ (by omega)).trans HK1.out)
    obtain ⟨X2, hX2⟩ : ∃ X, { X1 with p := p, n := n, c := c, da := da } = X := ⟨_, rfl⟩
    have HR2 : Hid (Rd w w2 (w.heap.size + 1) (w.heap.size + 1 + 1) rq0 X2) := Lib.hid (by rw [← hw2, ← hX2]; exact HR1.out.setDa p n c da)
    have HX2 := Lib.hid hX2
    clear hX2
    clear HC0
    go_wp2_with (first
        | (refine wpList_ld rfl _ _ rfl _ rfl _ HLD.out ?_)
        | (refine wpList_store_mid rfl 27 _ _ rfl (w.heap.size + 1 + 1) 2 _ rfl rfl HTH.out (by rw [bcs_size, HD.out.1]; exact size32) (bcs_one _) ?_; rw [HW1.out])
        | (refine wpList_ld rfl _ _ rfl _ rfl _ (HR2.out.own.load HR2.out.dx) ?_)
        | (refine wpList_store_row rfl 29 _ _ rfl (w.heap.size + 1) _ rfl rfl 29 _ HR2.out.out (Rq.sizeOf X2 HR2.out.dx) (Rq.sizes rq0 X2 rfl HR2.out.dx) (Rq.one X2) ?_; generalize hwZ : World.setRow _ _ _ = wZ; have HZ : Hid (Rd w wZ (w.heap.size + 1) (w.heap.size + 1 + 1) X2 X2) := Lib.hid (by rw [← hwZ]; exact HR2.out.ans X2 HR2.out.dx); clear hwZ))
    refine bodyPost_ret (HZ.out.out.res1 HZ.out.dy rfl _ rfl) rfl ?_
    exact ⟨X2, rfl, by rw [← HX2.out, ← HX1.out]; exact ⟨(HFT.out _ HZ.out.le).bs, HX.out.pc, HX.out.nc, HX.out.cm, HD.out, (Nat.zero_le 140737488355328 : (0 : Nat) ≤ 140737488355328), hs, by show _ ≤ (1 : Int) ∧ (1 : Int) ≤ _; omega, i64_zero, i64_zero⟩, by rw [HBN.out, ← HX2.out, ← HX1.out]; unfold Rq.rc; simp [rqKS, rq0, dg0]; try rfl, HZ.out.le, by rw [← HX2.out, ← HX1.out]; simp [bareQ, rqKS, rq0]⟩
  · have HC0 := Lib.hid ((HBX.out wS HK0.out).cells HX.out.dg.1)
    have HLD := Lib.hid (Mx.loadDig (P := Try.prog) (HBX.out wS HK0.out) 27 Try.underlying27 rfl (by rw [HX.out.dg.1]; exact size32) 2 rfl)
    have HTH : Hid (wS.there (w.heap.size + 1 + 1) 2 (bcs dg).size) := Lib.hid (by rw [bcs_size, HD.out.1]; exact Mx.there HR0.out.own 2 32 (by rw [HR0.out.dx]; simp [Rq.a, Rq.z]))
    obtain ⟨w1, hw1⟩ : ∃ W, wS.setCells (w.heap.size + 1 + 1) 2 (bcs dg).toList = W := ⟨_, rfl⟩
    have HK1 : Hid (w1.heap[w.heap.size]? = wA.heap[w.heap.size]?) := Lib.hid ((keep_cells hw1 _ (by omega)).trans HK0.out)
    have HW1 := Lib.hid hw1
    obtain ⟨X1, hX1⟩ : ∃ X, { (rqKS 2 s) with dg := dg } = X := ⟨_, rfl⟩
    have HR1 : Hid (Rd w w1 (w.heap.size + 1) (w.heap.size + 1 + 1) rq0 X1) := Lib.hid (by rw [← hw1, ← hX1]; exact HR0.out.setDg dg HD.out.1)
    have HX1 := Lib.hid hX1
    clear hw1
    clear hX1
    have g2 := ((HBX.out w1 HK1.out).cells HX.out.dg.1).2.2.2.1
    have cl2 := (HR1.out.own.cells HR1.out.dx).2.2.2.1
    have fr2 := HR1.out.own.frozen 35
    obtain ⟨w2, hw2⟩ : ∃ W, w1.setCell ⟨w.heap.size + 1 + 1, 35, none⟩ (.slice p n c) = W := ⟨_, rfl⟩
    have HK2 : Hid (w2.heap[w.heap.size]? = wA.heap[w.heap.size]?) := Lib.hid ((keep_cell hw2 _ (by omega)).trans HK1.out)
    obtain ⟨X2, hX2⟩ : ∃ X, { X1 with p := p, n := n, c := c, da := da } = X := ⟨_, rfl⟩
    have HR2 : Hid (Rd w w2 (w.heap.size + 1) (w.heap.size + 1 + 1) rq0 X2) := Lib.hid (by rw [← hw2, ← hX2]; exact HR1.out.setDa p n c da)
    have HX2 := Lib.hid hX2
    clear hX2
    clear HC0
    go_wp2_with (first
        | (refine wpList_ld rfl _ _ rfl _ rfl _ HLD.out ?_)
        | (refine wpList_store_mid rfl 27 _ _ rfl (w.heap.size + 1 + 1) 2 _ rfl rfl HTH.out (by rw [bcs_size, HD.out.1]; exact size32) (bcs_one _) ?_; rw [HW1.out])
        | (refine wpList_ld rfl _ _ rfl _ rfl _ (HR2.out.own.load HR2.out.dx) ?_)
        | (refine wpList_store_row rfl 29 _ _ rfl (w.heap.size + 1) _ rfl rfl 29 _ HR2.out.out (Rq.sizeOf X2 HR2.out.dx) (Rq.sizes rq0 X2 rfl HR2.out.dx) (Rq.one X2) ?_; generalize hwZ : World.setRow _ _ _ = wZ; have HZ : Hid (Rd w wZ (w.heap.size + 1) (w.heap.size + 1 + 1) X2 X2) := Lib.hid (by rw [← hwZ]; exact HR2.out.ans X2 HR2.out.dx); clear hwZ))
    refine bodyPost_ret (HZ.out.out.res1 HZ.out.dy rfl _ rfl) rfl ?_
    exact ⟨X2, rfl, by rw [← HX2.out, ← HX1.out]; exact ⟨(HFT.out _ HZ.out.le).bs, HX.out.pc, HX.out.nc, HX.out.cm, HD.out, (Nat.zero_le 140737488355328 : (0 : Nat) ≤ 140737488355328), hs, by show _ ≤ (2 : Int) ∧ (2 : Int) ≤ _; omega, i64_zero, i64_zero⟩, by rw [HBN.out, ← HX2.out, ← HX1.out]; unfold Rq.rc; simp [rqKS, rq0, dg0]; try rfl, HZ.out.le, by rw [← HX2.out, ← HX1.out]; simp [bareQ, rqKS, rq0]⟩
  · have HC0 := Lib.hid ((HBX.out wS HK0.out).cells HX.out.dg.1)
    have HLD := Lib.hid (Mx.loadDig (P := Try.prog) (HBX.out wS HK0.out) 27 Try.underlying27 rfl (by rw [HX.out.dg.1]; exact size32) 2 rfl)
    have HTH : Hid (wS.there (w.heap.size + 1 + 1) 2 (bcs dg).size) := Lib.hid (by rw [bcs_size, HD.out.1]; exact Mx.there HR0.out.own 2 32 (by rw [HR0.out.dx]; simp [Rq.a, Rq.z]))
    obtain ⟨w1, hw1⟩ : ∃ W, wS.setCells (w.heap.size + 1 + 1) 2 (bcs dg).toList = W := ⟨_, rfl⟩
    have HK1 : Hid (w1.heap[w.heap.size]? = wA.heap[w.heap.size]?) := Lib.hid ((keep_cells hw1 _ (by omega)).trans HK0.out)
    have HW1 := Lib.hid hw1
    obtain ⟨X1, hX1⟩ : ∃ X, { (rqKS 3 s) with dg := dg } = X := ⟨_, rfl⟩
    have HR1 : Hid (Rd w w1 (w.heap.size + 1) (w.heap.size + 1 + 1) rq0 X1) := Lib.hid (by rw [← hw1, ← hX1]; exact HR0.out.setDg dg HD.out.1)
    have HX1 := Lib.hid hX1
    clear hw1
    clear hX1
    have g2 := ((HBX.out w1 HK1.out).cells HX.out.dg.1).2.2.1
    have cl2 := (HR1.out.own.cells HR1.out.dx).2.2.1
    have fr2 := HR1.out.own.frozen 34
    obtain ⟨w2, hw2⟩ : ∃ W, w1.setCell ⟨w.heap.size + 1 + 1, 34, none⟩ (.string nm) = W := ⟨_, rfl⟩
    have HK2 : Hid (w2.heap[w.heap.size]? = wA.heap[w.heap.size]?) := Lib.hid ((keep_cell hw2 _ (by omega)).trans HK1.out)
    obtain ⟨X2, hX2⟩ : ∃ X, { X1 with nm := nm } = X := ⟨_, rfl⟩
    have HR2 : Hid (Rd w w2 (w.heap.size + 1) (w.heap.size + 1 + 1) rq0 X2) := Lib.hid (by rw [← hw2, ← hX2]; exact HR1.out.setNm nm)
    have HX2 := Lib.hid hX2
    clear hX2
    clear HC0
    go_wp2_with (first
        | (refine wpList_ld rfl _ _ rfl _ rfl _ HLD.out ?_)
        | (refine wpList_store_mid rfl 27 _ _ rfl (w.heap.size + 1 + 1) 2 _ rfl rfl HTH.out (by rw [bcs_size, HD.out.1]; exact size32) (bcs_one _) ?_; rw [HW1.out])
        | (refine wpList_ld rfl _ _ rfl _ rfl _ (HR2.out.own.load HR2.out.dx) ?_)
        | (refine wpList_store_row rfl 29 _ _ rfl (w.heap.size + 1) _ rfl rfl 29 _ HR2.out.out (Rq.sizeOf X2 HR2.out.dx) (Rq.sizes rq0 X2 rfl HR2.out.dx) (Rq.one X2) ?_; generalize hwZ : World.setRow _ _ _ = wZ; have HZ : Hid (Rd w wZ (w.heap.size + 1) (w.heap.size + 1 + 1) X2 X2) := Lib.hid (by rw [← hwZ]; exact HR2.out.ans X2 HR2.out.dx); clear hwZ))
    refine bodyPost_ret (HZ.out.out.res1 HZ.out.dy rfl _ rfl) rfl ?_
    exact ⟨X2, rfl, by rw [← HX2.out, ← HX1.out]; exact ⟨Bs.empty _ _, fun _ => rfl, Nat.le_refl _, Nat.zero_le _, HD.out, HX.out.nm, hs, by show _ ≤ (3 : Int) ∧ (3 : Int) ≤ _; omega, i64_zero, i64_zero⟩, by rw [HBN.out, ← HX2.out, ← HX1.out]; unfold Rq.rc; simp [rqKS, rq0, dg0]; try rfl, HZ.out.le, by rw [← HX2.out, ← HX1.out]; simp [bareQ, rqKS, rq0]⟩
  · have HC0 := Lib.hid ((HBX.out wS HK0.out).cells HX.out.dg.1)
    have HLD := Lib.hid (Mx.loadDig (P := Try.prog) (HBX.out wS HK0.out) 27 Try.underlying27 rfl (by rw [HX.out.dg.1]; exact size32) 2 rfl)
    have g1 := ((HBX.out wS HK0.out).cells HX.out.dg.1).2.2.1
    have cl1 := (HR0.out.own.cells HR0.out.dx).2.2.1
    have fr1 := HR0.out.own.frozen 34
    obtain ⟨w1, hw1⟩ : ∃ W, wS.setCell ⟨w.heap.size + 1 + 1, 34, none⟩ (.string nm) = W := ⟨_, rfl⟩
    have HK1 : Hid (w1.heap[w.heap.size]? = wA.heap[w.heap.size]?) := Lib.hid ((keep_cell hw1 _ (by omega)).trans HK0.out)
    obtain ⟨X1, hX1⟩ : ∃ X, { (rqKS 4 s) with nm := nm } = X := ⟨_, rfl⟩
    have HR1 : Hid (Rd w w1 (w.heap.size + 1) (w.heap.size + 1 + 1) rq0 X1) := Lib.hid (by rw [← hw1, ← hX1]; exact HR0.out.setNm nm)
    have HX1 := Lib.hid hX1
    clear hX1
    clear HC0
    go_wp2_with (first
        | (refine wpList_ld rfl _ _ rfl _ rfl _ (HR1.out.own.load HR1.out.dx) ?_)
        | (refine wpList_store_row rfl 29 _ _ rfl (w.heap.size + 1) _ rfl rfl 29 _ HR1.out.out (Rq.sizeOf X1 HR1.out.dx) (Rq.sizes rq0 X1 rfl HR1.out.dx) (Rq.one X1) ?_; generalize hwZ : World.setRow _ _ _ = wZ; have HZ : Hid (Rd w wZ (w.heap.size + 1) (w.heap.size + 1 + 1) X1 X1) := Lib.hid (by rw [← hwZ]; exact HR1.out.ans X1 HR1.out.dx); clear hwZ))
    refine bodyPost_ret (HZ.out.out.res1 HZ.out.dy rfl _ rfl) rfl ?_
    exact ⟨X1, rfl, by rw [← HX1.out]; exact ⟨Bs.empty _ _, fun _ => rfl, Nat.le_refl _, Nat.zero_le _, dok_zero, HX.out.nm, hs, by show _ ≤ (4 : Int) ∧ (4 : Int) ≤ _; omega, i64_zero, i64_zero⟩, by rw [HBN.out, ← HX1.out]; unfold Rq.rc; simp [rqKS, rq0, dg0]; try rfl, HZ.out.le, by rw [← HX1.out]; simp [bareQ, rqKS, rq0]⟩
  · have HC0 := Lib.hid ((HBX.out wS HK0.out).cells HX.out.dg.1)
    have HLD := Lib.hid (Mx.loadDig (P := Try.prog) (HBX.out wS HK0.out) 27 Try.underlying27 rfl (by rw [HX.out.dg.1]; exact size32) 2 rfl)
    have HTH : Hid (wS.there (w.heap.size + 1 + 1) 2 (bcs dg).size) := Lib.hid (by rw [bcs_size, HD.out.1]; exact Mx.there HR0.out.own 2 32 (by rw [HR0.out.dx]; simp [Rq.a, Rq.z]))
    obtain ⟨w1, hw1⟩ : ∃ W, wS.setCells (w.heap.size + 1 + 1) 2 (bcs dg).toList = W := ⟨_, rfl⟩
    have HK1 : Hid (w1.heap[w.heap.size]? = wA.heap[w.heap.size]?) := Lib.hid ((keep_cells hw1 _ (by omega)).trans HK0.out)
    have HW1 := Lib.hid hw1
    obtain ⟨X1, hX1⟩ : ∃ X, { (rqKS 5 s) with dg := dg } = X := ⟨_, rfl⟩
    have HR1 : Hid (Rd w w1 (w.heap.size + 1) (w.heap.size + 1 + 1) rq0 X1) := Lib.hid (by rw [← hw1, ← hX1]; exact HR0.out.setDg dg HD.out.1)
    have HX1 := Lib.hid hX1
    clear hw1
    clear hX1
    clear HC0
    go_wp2_with (first
        | (refine wpList_ld rfl _ _ rfl _ rfl _ HLD.out ?_)
        | (refine wpList_store_mid rfl 27 _ _ rfl (w.heap.size + 1 + 1) 2 _ rfl rfl HTH.out (by rw [bcs_size, HD.out.1]; exact size32) (bcs_one _) ?_; rw [HW1.out])
        | (refine wpList_ld rfl _ _ rfl _ rfl _ (HR1.out.own.load HR1.out.dx) ?_)
        | (refine wpList_store_row rfl 29 _ _ rfl (w.heap.size + 1) _ rfl rfl 29 _ HR1.out.out (Rq.sizeOf X1 HR1.out.dx) (Rq.sizes rq0 X1 rfl HR1.out.dx) (Rq.one X1) ?_; generalize hwZ : World.setRow _ _ _ = wZ; have HZ : Hid (Rd w wZ (w.heap.size + 1) (w.heap.size + 1 + 1) X1 X1) := Lib.hid (by rw [← hwZ]; exact HR1.out.ans X1 HR1.out.dx); clear hwZ))
    refine bodyPost_ret (HZ.out.out.res1 HZ.out.dy rfl _ rfl) rfl ?_
    exact ⟨X1, rfl, by rw [← HX1.out]; exact ⟨Bs.empty _ _, fun _ => rfl, Nat.le_refl _, Nat.zero_le _, HD.out, (Nat.zero_le 140737488355328 : (0 : Nat) ≤ 140737488355328), hs, by show _ ≤ (5 : Int) ∧ (5 : Int) ≤ _; omega, i64_zero, i64_zero⟩, by rw [HBN.out, ← HX1.out]; unfold Rq.rc; simp [rqKS, rq0, dg0]; try rfl, HZ.out.le, by rw [← HX1.out]; simp [bareQ, rqKS, rq0]⟩
  · have HC0 := Lib.hid ((HBX.out wS HK0.out).cells HX.out.dg.1)
    have HLD := Lib.hid (Mx.loadDig (P := Try.prog) (HBX.out wS HK0.out) 27 Try.underlying27 rfl (by rw [HX.out.dg.1]; exact size32) 2 rfl)
    have g1 := ((HBX.out wS HK0.out).cells HX.out.dg.1).2.2.2.2.1
    have cl1 := (HR0.out.own.cells HR0.out.dx).2.2.2.2.1
    have fr1 := HR0.out.own.frozen 36
    obtain ⟨w1, hw1⟩ : ∃ W, wS.setCell ⟨w.heap.size + 1 + 1, 36, none⟩ (.int .i64 N) = W := ⟨_, rfl⟩
    have HK1 : Hid (w1.heap[w.heap.size]? = wA.heap[w.heap.size]?) := Lib.hid ((keep_cell hw1 _ (by omega)).trans HK0.out)
    obtain ⟨X1, hX1⟩ : ∃ X, { (rqKS 6 s) with N := N } = X := ⟨_, rfl⟩
    have HR1 : Hid (Rd w w1 (w.heap.size + 1) (w.heap.size + 1 + 1) rq0 X1) := Lib.hid (by rw [← hw1, ← hX1]; exact HR0.out.setN N)
    have HX1 := Lib.hid hX1
    clear hX1
    have g2 := ((HBX.out w1 HK1.out).cells HX.out.dg.1).2.2.2.2.2
    have cl2 := (HR1.out.own.cells HR1.out.dx).2.2.2.2.2
    have fr2 := HR1.out.own.frozen 37
    obtain ⟨w2, hw2⟩ : ∃ W, w1.setCell ⟨w.heap.size + 1 + 1, 37, none⟩ (.int .i64 Z) = W := ⟨_, rfl⟩
    have HK2 : Hid (w2.heap[w.heap.size]? = wA.heap[w.heap.size]?) := Lib.hid ((keep_cell hw2 _ (by omega)).trans HK1.out)
    obtain ⟨X2, hX2⟩ : ∃ X, { X1 with Z := Z } = X := ⟨_, rfl⟩
    have HR2 : Hid (Rd w w2 (w.heap.size + 1) (w.heap.size + 1 + 1) rq0 X2) := Lib.hid (by rw [← hw2, ← hX2]; exact HR1.out.setZ Z)
    have HX2 := Lib.hid hX2
    clear hX2
    clear HC0
    go_wp2_with (first
        | (refine wpList_ld rfl _ _ rfl _ rfl _ (HR2.out.own.load HR2.out.dx) ?_)
        | (refine wpList_store_row rfl 29 _ _ rfl (w.heap.size + 1) _ rfl rfl 29 _ HR2.out.out (Rq.sizeOf X2 HR2.out.dx) (Rq.sizes rq0 X2 rfl HR2.out.dx) (Rq.one X2) ?_; generalize hwZ : World.setRow _ _ _ = wZ; have HZ : Hid (Rd w wZ (w.heap.size + 1) (w.heap.size + 1 + 1) X2 X2) := Lib.hid (by rw [← hwZ]; exact HR2.out.ans X2 HR2.out.dx); clear hwZ))
    refine bodyPost_ret (HZ.out.out.res1 HZ.out.dy rfl _ rfl) rfl ?_
    exact ⟨X2, rfl, by rw [← HX2.out, ← HX1.out]; exact ⟨Bs.empty _ _, fun _ => rfl, Nat.le_refl _, Nat.zero_le _, dok_zero, (Nat.zero_le 140737488355328 : (0 : Nat) ≤ 140737488355328), hs, by show _ ≤ (6 : Int) ∧ (6 : Int) ≤ _; omega, hN, hZ⟩, by rw [HBN.out, ← HX2.out, ← HX1.out]; unfold Rq.rc; simp [rqKS, rq0, dg0]; try rfl, HZ.out.le, by rw [← HX2.out, ← HX1.out]; simp [bareQ, rqKS, rq0]⟩
  · have HC0 := Lib.hid ((HBX.out wS HK0.out).cells HX.out.dg.1)
    have HLD := Lib.hid (Mx.loadDig (P := Try.prog) (HBX.out wS HK0.out) 27 Try.underlying27 rfl (by rw [HX.out.dg.1]; exact size32) 2 rfl)
    have g1 := ((HBX.out wS HK0.out).cells HX.out.dg.1).2.2.2.2.1
    have cl1 := (HR0.out.own.cells HR0.out.dx).2.2.2.2.1
    have fr1 := HR0.out.own.frozen 36
    obtain ⟨w1, hw1⟩ : ∃ W, wS.setCell ⟨w.heap.size + 1 + 1, 36, none⟩ (.int .i64 N) = W := ⟨_, rfl⟩
    have HK1 : Hid (w1.heap[w.heap.size]? = wA.heap[w.heap.size]?) := Lib.hid ((keep_cell hw1 _ (by omega)).trans HK0.out)
    obtain ⟨X1, hX1⟩ : ∃ X, { (rqKS 7 s) with N := N } = X := ⟨_, rfl⟩
    have HR1 : Hid (Rd w w1 (w.heap.size + 1) (w.heap.size + 1 + 1) rq0 X1) := Lib.hid (by rw [← hw1, ← hX1]; exact HR0.out.setN N)
    have HX1 := Lib.hid hX1
    clear hX1
    clear HC0
    go_wp2_with (first
        | (refine wpList_ld rfl _ _ rfl _ rfl _ (HR1.out.own.load HR1.out.dx) ?_)
        | (refine wpList_store_row rfl 29 _ _ rfl (w.heap.size + 1) _ rfl rfl 29 _ HR1.out.out (Rq.sizeOf X1 HR1.out.dx) (Rq.sizes rq0 X1 rfl HR1.out.dx) (Rq.one X1) ?_; generalize hwZ : World.setRow _ _ _ = wZ; have HZ : Hid (Rd w wZ (w.heap.size + 1) (w.heap.size + 1 + 1) X1 X1) := Lib.hid (by rw [← hwZ]; exact HR1.out.ans X1 HR1.out.dx); clear hwZ))
    refine bodyPost_ret (HZ.out.out.res1 HZ.out.dy rfl _ rfl) rfl ?_
    exact ⟨X1, rfl, by rw [← HX1.out]; exact ⟨Bs.empty _ _, fun _ => rfl, Nat.le_refl _, Nat.zero_le _, dok_zero, (Nat.zero_le 140737488355328 : (0 : Nat) ≤ 140737488355328), hs, by show _ ≤ (7 : Int) ∧ (7 : Int) ≤ _; omega, hN, i64_zero⟩, by rw [HBN.out, ← HX1.out]; unfold Rq.rc; simp [rqKS, rq0, dg0]; try rfl, HZ.out.le, by rw [← HX1.out]; simp [bareQ, rqKS, rq0]⟩
  · have HC0 := Lib.hid ((HBX.out wS HK0.out).cells HX.out.dg.1)
    have HLD := Lib.hid (Mx.loadDig (P := Try.prog) (HBX.out wS HK0.out) 27 Try.underlying27 rfl (by rw [HX.out.dg.1]; exact size32) 2 rfl)
    have g1 := ((HBX.out wS HK0.out).cells HX.out.dg.1).2.2.2.2.1
    have cl1 := (HR0.out.own.cells HR0.out.dx).2.2.2.2.1
    have fr1 := HR0.out.own.frozen 36
    obtain ⟨w1, hw1⟩ : ∃ W, wS.setCell ⟨w.heap.size + 1 + 1, 36, none⟩ (.int .i64 N) = W := ⟨_, rfl⟩
    have HK1 : Hid (w1.heap[w.heap.size]? = wA.heap[w.heap.size]?) := Lib.hid ((keep_cell hw1 _ (by omega)).trans HK0.out)
    obtain ⟨X1, hX1⟩ : ∃ X, { (rqKS 8 s) with N := N } = X := ⟨_, rfl⟩
    have HR1 : Hid (Rd w w1 (w.heap.size + 1) (w.heap.size + 1 + 1) rq0 X1) := Lib.hid (by rw [← hw1, ← hX1]; exact HR0.out.setN N)
    have HX1 := Lib.hid hX1
    clear hX1
    have g2 := ((HBX.out w1 HK1.out).cells HX.out.dg.1).2.2.2.2.2
    have cl2 := (HR1.out.own.cells HR1.out.dx).2.2.2.2.2
    have fr2 := HR1.out.own.frozen 37
    obtain ⟨w2, hw2⟩ : ∃ W, w1.setCell ⟨w.heap.size + 1 + 1, 37, none⟩ (.int .i64 Z) = W := ⟨_, rfl⟩
    have HK2 : Hid (w2.heap[w.heap.size]? = wA.heap[w.heap.size]?) := Lib.hid ((keep_cell hw2 _ (by omega)).trans HK1.out)
    obtain ⟨X2, hX2⟩ : ∃ X, { X1 with Z := Z } = X := ⟨_, rfl⟩
    have HR2 : Hid (Rd w w2 (w.heap.size + 1) (w.heap.size + 1 + 1) rq0 X2) := Lib.hid (by rw [← hw2, ← hX2]; exact HR1.out.setZ Z)
    have HX2 := Lib.hid hX2
    clear hX2
    clear HC0
    go_wp2_with (first
        | (refine wpList_ld rfl _ _ rfl _ rfl _ (HR2.out.own.load HR2.out.dx) ?_)
        | (refine wpList_store_row rfl 29 _ _ rfl (w.heap.size + 1) _ rfl rfl 29 _ HR2.out.out (Rq.sizeOf X2 HR2.out.dx) (Rq.sizes rq0 X2 rfl HR2.out.dx) (Rq.one X2) ?_; generalize hwZ : World.setRow _ _ _ = wZ; have HZ : Hid (Rd w wZ (w.heap.size + 1) (w.heap.size + 1 + 1) X2 X2) := Lib.hid (by rw [← hwZ]; exact HR2.out.ans X2 HR2.out.dx); clear hwZ))
    refine bodyPost_ret (HZ.out.out.res1 HZ.out.dy rfl _ rfl) rfl ?_
    exact ⟨X2, rfl, by rw [← HX2.out, ← HX1.out]; exact ⟨Bs.empty _ _, fun _ => rfl, Nat.le_refl _, Nat.zero_le _, dok_zero, (Nat.zero_le 140737488355328 : (0 : Nat) ≤ 140737488355328), hs, by show _ ≤ (8 : Int) ∧ (8 : Int) ≤ _; omega, hN, hZ⟩, by rw [HBN.out, ← HX2.out, ← HX1.out]; unfold Rq.rc; simp [rqKS, rq0, dg0]; try rfl, HZ.out.le, by rw [← HX2.out, ← HX1.out]; simp [bareQ, rqKS, rq0]⟩
theorem rbare_any (x : Rq) (w : World) (hx : x.Fit w) (hk : 1 ≤ x.k ∧ x.k ≤ 8) :
    Calls Try.prog 17 #[x.v] w fun e w' => ∃ y : Rq, e = .returned y.v ∧ y.Fit w' ∧ y.rc = bareN x.rc ∧ Below w.heap.size w w' :=
  (rbareQ_any x w hx hk).mono fun e w' ⟨y, h1, h2, h3, h4, _⟩ => ⟨y, h1, h2, h3, h4⟩
end Go.Proofs.Ytjdigncieoaglaa

namespace Go.Proofs.Ytjdigncieoaglaa
set_option linter.unusedVariables false
open Go.RowKit Go.Lib

/-- a header and a footer, as they lie -/
def hdQ (n s : Int) : Rq := ⟨7, s, dg0, ⟨#[]⟩, none, 0, 0, [], n, 0⟩
def ftQ (s m z : Int) : Rq := ⟨8, s, dg0, ⟨#[]⟩, none, 0, 0, [], m, z⟩
theorem hdQ_fit {n s : Int} (hn : -9223372036854775808 ≤ n ∧ n ≤ 9223372036854775807) (hs : 0 ≤ s ∧ s < 18446744073709551616) (w : World) : (hdQ n s).Fit w :=
  ⟨Bs.empty _ _, fun _ => rfl, Nat.le_refl _, Nat.zero_le _, dok_zero, (Nat.zero_le 140737488355328 : (0 : Nat) ≤ 140737488355328), hs, by show _ ≤ (7 : Int) ∧ (7 : Int) ≤ _; omega, hn, i64_zero⟩
theorem ftQ_fit {s m z : Int} (hs : 0 ≤ s ∧ s < 18446744073709551616) (hm : -9223372036854775808 ≤ m ∧ m ≤ 9223372036854775807) (hz : -9223372036854775808 ≤ z ∧ z ≤ 9223372036854775807) (w : World) : (ftQ s m z).Fit w :=
  ⟨Bs.empty _ _, fun _ => rfl, Nat.le_refl _, Nat.zero_le _, dok_zero, (Nat.zero_le 140737488355328 : (0 : Nat) ≤ 140737488355328), hs, by show _ ≤ (8 : Int) ∧ (8 : Int) ≤ _; omega, hm, hz⟩
theorem hdQ_rc (n s : Int) : (hdQ n s).rc = headN n s := rfl
theorem ftQ_rc (s m z : Int) : (ftQ s m z).rc = footN s m z := rfl
end Go.Proofs.Ytjdigncieoaglaa

namespace Go.Proofs.Ytjdigncieoaglaa
set_option linter.unusedVariables false
open Go.RowKit Go.Lib

def cRightOk : Prop := ∀ (x : Rq) (w : World), x.Fit w → x.n ≤ 2097216 → Calls Try.prog 33 #[x.v] w fun e w' => e = .returned (.int .i64 (rightN x.rc)) ∧ Below w.heap.size w w'
end Go.Proofs.Ytjdigncieoaglaa

namespace Go.Proofs.Ytjdigncieoaglaa
set_option linter.unusedVariables false
open Go.RowKit Go.Lib

set_option maxRecDepth 100000 in
set_option maxHeartbeats 4000000 in
theorem own_in (x : Rq) (w : World) (hx : x.Fit w) (hk : 1 ≤ x.k ∧ x.k ≤ 8) :
    Calls Try.prog 34 #[x.v] w fun e w' => ∃ y : Rq, e = .returned y.v ∧ y.Fit w' ∧ y.rc = bareN x.rc ∧ Below w.heap.size w w' ∧ y = bareQ x := by
  obtain ⟨wA, hA, hm, hb, c0, c1, c34, c35, c36, c37⟩ := box_rec w x hx.dg.1
  have hsA : wA.heap.size = w.heap.size + 1 := by rw [← hA]; simp
  have HX := Lib.hid hx
  have HBX := Lib.hid fun W (hW : W.heap[w.heap.size]? = wA.heap[w.heap.size]?) => show Rm W w.heap.size x from Mx.keep hm hW
  have HB := Lib.hid hb
  have HSA := Lib.hid hsA
  have HNW : Hid (∀ Z : Obj, ((wA.alloc Z).alloc Z).heap[w.heap.size + 1 + 1]? = some Z) := Lib.hid fun Z => by rw [← hsA]; exact heap_alloc2_new _ _ _
  have HFT := Lib.hid fun W (hW : Below w.heap.size w W) => hx.later hW
  have HBN := Lib.hid (show bareN x.rc = _ from rfl)
  unfold bareN Rq.rc at HBN
  dsimp only at HBN
  generalize hBN : bareN x.rc = R at *
  replace HBN : Hid (R = ⟨x.k, x.s, if x.k ≤ 3 ∨ x.k = 5 then x.dg else dg0, if x.k = 3 ∨ x.k = 4 then numsOf x.nm else [], if x.k ≤ 2 then x.da else [], if x.k ≥ 6 then x.N else 0, if x.k = 6 ∨ x.k = 8 then x.Z else 0⟩) := Lib.hid (by rw [← hBN]; rfl)
  have HD := Lib.hid hx.dg
  have hs := hx.s
  have hN := hx.N
  have hZ := hx.Z
  unfold Rq.v
  obtain ⟨k, s, dg, nm, p, n, c, da, N, Z⟩ := x
  dsimp only at *
  generalize hM : mixC _ _ _ = M at *
  clear hM hx hm hb c34 c35 c36 c37 hBN
  go_enter Try.func34, Try.ntmps34
  go_upto_region 2 with (first
    | (refine wpList_build_is rfl 29 _ rfl (mixC (rqKS k s).a (rqKS k s).dg (rqKS k s).z) ?_ ?_; kernel_rfl)
    | (refine wpList_store_row rfl 29 _ _ rfl (w.heap.size + 1 + 1) _ rfl rfl 29 _ (HNW.out _) ((rqKS k s).sizeOf rfl) (Rq.sizes rq0 (rqKS k s) rfl rfl) (rqKS k s).one ?_; generalize hwS : World.setRow _ _ _ = wS))
  have HR0 : Hid (Rd w wS (w.heap.size + 1) (w.heap.size + 1 + 1) rq0 (rqKS k s)) := Lib.hid (by
    rw [← hwS]
    have h1 : Rd wA ((wA.alloc (.cells (mixC rq0.a rq0.dg rq0.z) 29)).alloc (.cells (mixC rq0.a rq0.dg rq0.z) 29)) wA.heap.size (wA.heap.size + 1) rq0 rq0 := Rd.start wA
    rw [HSA.out] at h1
    exact Rd.put ⟨h1.ne, by omega, by omega, h1.out, h1.own, below_step HB.out h1.le, h1.dy, h1.dx⟩ (rqKS k s) rfl)
  have HK0 : Hid (wS.heap[w.heap.size]? = wA.heap[w.heap.size]?) := Lib.hid (by rw [keep_row hwS _ (by omega), heap_alloc_old _ _ (by simp; rw [HSA.out]; omega), heap_alloc_old _ _ (by rw [HSA.out]; omega)])
  clear hwS c0 c1
  rcases kinds (k := k) with h | h | rfl | rfl | rfl | rfl | rfl | rfl | rfl | rfl
  · omega
  · omega
  · have HC0 := Lib.hid ((HBX.out wS HK0.out).cells HX.out.dg.1)
    have g1 := ((HBX.out wS HK0.out).cells HX.out.dg.1).2.2.2.1
    have cl1 := (HR0.out.own.cells HR0.out.dx).2.2.2.1
    have fr1 := HR0.out.own.frozen 35
    obtain ⟨w1, hw1⟩ : ∃ W, wS.setCell ⟨w.heap.size + 1 + 1, 35, none⟩ (.slice p n c) = W := ⟨_, rfl⟩
    have HK1 : Hid (w1.heap[w.heap.size]? = wA.heap[w.heap.size]?) := Lib.hid ((keep_cell hw1 _ (by omega)).trans HK0.out)
    obtain ⟨X1, hX1⟩ : ∃ X, { (rqKS 1 s) with p := p, n := n, c := c, da := da } = X := ⟨_, rfl⟩
    have HR1 : Hid (Rd w w1 (w.heap.size + 1) (w.heap.size + 1 + 1) rq0 X1) := Lib.hid (by rw [← hw1, ← hX1]; exact HR0.out.setDa p n c da)
    have HX1 := Lib.hid hX1
    clear hX1
    have HLD := Lib.hid (Mx.loadDig (P := Try.prog) (HBX.out w1 HK1.out) 27 Try.underlying27 rfl (by rw [HX.out.dg.1]; exact size32) 2 rfl)
    have HTH : Hid (w1.there (w.heap.size + 1 + 1) 2 (bcs dg).size) := Lib.hid (by rw [bcs_size, HD.out.1]; exact Mx.there HR1.out.own 2 32 (by rw [HR1.out.dx]; simp [Rq.a, Rq.z]))
    obtain ⟨w2, hw2⟩ : ∃ W, w1.setCells (w.heap.size + 1 + 1) 2 (bcs dg).toList = W := ⟨_, rfl⟩
    have HK2 : Hid (w2.heap[w.heap.size]? = wA.heap[w.heap.size]?) := Lib.hid ((keep_cells hw2 _ (by omega)).trans HK1.out)
    have HWD := Lib.hid hw2
    obtain ⟨X2, hX2⟩ : ∃ X, { X1 with dg := dg } = X := ⟨_, rfl⟩
    have HR2 : Hid (Rd w w2 (w.heap.size + 1) (w.heap.size + 1 + 1) rq0 X2) := Lib.hid (by rw [← hw2, ← hX2]; exact HR1.out.setDg dg HD.out.1)
    have HX2 := Lib.hid hX2
    clear hw2
    clear hX2
    obtain ⟨e0, _⟩ := HC0.out
    clear HC0
    go_wp2_with (first
        | (refine wpList_ld rfl _ _ rfl _ rfl _ HLD.out ?_)
        | (refine wpList_store_mid rfl 27 _ _ rfl (w.heap.size + 1 + 1) 2 _ rfl rfl HTH.out (by rw [bcs_size, HD.out.1]; exact size32) (bcs_one _) ?_; rw [HWD.out])
        | (refine wpList_ld rfl _ _ rfl _ rfl _ (HR2.out.own.load HR2.out.dx) ?_)
        | (refine wpList_store_row rfl 29 _ _ rfl (w.heap.size + 1) _ rfl rfl 29 _ HR2.out.out (Rq.sizeOf X2 HR2.out.dx) (Rq.sizes rq0 X2 rfl HR2.out.dx) (Rq.one X2) ?_; generalize hwZ : World.setRow _ _ _ = wZ; have HZ : Hid (Rd w wZ (w.heap.size + 1) (w.heap.size + 1 + 1) X2 X2) := Lib.hid (by rw [← hwZ]; exact HR2.out.ans X2 HR2.out.dx); clear hwZ))
    refine bodyPost_ret (HZ.out.out.res1 HZ.out.dy rfl _ rfl) rfl ?_
    exact ⟨X2, rfl, by rw [← HX2.out, ← HX1.out]; exact ⟨(HFT.out _ HZ.out.le).bs, HX.out.pc, HX.out.nc, HX.out.cm, HD.out, (Nat.zero_le 140737488355328 : (0 : Nat) ≤ 140737488355328), hs, by show _ ≤ (1 : Int) ∧ (1 : Int) ≤ _; omega, i64_zero, i64_zero⟩, by rw [HBN.out, ← HX2.out, ← HX1.out]; unfold Rq.rc; simp [rqKS, rq0, dg0]; try rfl, HZ.out.le, by rw [← HX2.out, ← HX1.out]; simp [bareQ, rqKS, rq0]⟩
  · have HC0 := Lib.hid ((HBX.out wS HK0.out).cells HX.out.dg.1)
    have g1 := ((HBX.out wS HK0.out).cells HX.out.dg.1).2.2.2.1
    have cl1 := (HR0.out.own.cells HR0.out.dx).2.2.2.1
    have fr1 := HR0.out.own.frozen 35
    obtain ⟨w1, hw1⟩ : ∃ W, wS.setCell ⟨w.heap.size + 1 + 1, 35, none⟩ (.slice p n c) = W := ⟨_, rfl⟩
    have HK1 : Hid (w1.heap[w.heap.size]? = wA.heap[w.heap.size]?) := Lib.hid ((keep_cell hw1 _ (by omega)).trans HK0.out)
    obtain ⟨X1, hX1⟩ : ∃ X, { (rqKS 2 s) with p := p, n := n, c := c, da := da } = X := ⟨_, rfl⟩
    have HR1 : Hid (Rd w w1 (w.heap.size + 1) (w.heap.size + 1 + 1) rq0 X1) := Lib.hid (by rw [← hw1, ← hX1]; exact HR0.out.setDa p n c da)
    have HX1 := Lib.hid hX1
    clear hX1
    have HLD := Lib.hid (Mx.loadDig (P := Try.prog) (HBX.out w1 HK1.out) 27 Try.underlying27 rfl (by rw [HX.out.dg.1]; exact size32) 2 rfl)
    have HTH : Hid (w1.there (w.heap.size + 1 + 1) 2 (bcs dg).size) := Lib.hid (by rw [bcs_size, HD.out.1]; exact Mx.there HR1.out.own 2 32 (by rw [HR1.out.dx]; simp [Rq.a, Rq.z]))
    obtain ⟨w2, hw2⟩ : ∃ W, w1.setCells (w.heap.size + 1 + 1) 2 (bcs dg).toList = W := ⟨_, rfl⟩
    have HK2 : Hid (w2.heap[w.heap.size]? = wA.heap[w.heap.size]?) := Lib.hid ((keep_cells hw2 _ (by omega)).trans HK1.out)
    have HWD := Lib.hid hw2
    obtain ⟨X2, hX2⟩ : ∃ X, { X1 with dg := dg } = X := ⟨_, rfl⟩
    have HR2 : Hid (Rd w w2 (w.heap.size + 1) (w.heap.size + 1 + 1) rq0 X2) := Lib.hid (by rw [← hw2, ← hX2]; exact HR1.out.setDg dg HD.out.1)
    have HX2 := Lib.hid hX2
    clear hw2
    clear hX2
    obtain ⟨e0, _⟩ := HC0.out
    clear HC0
    go_wp2_with (first
        | (refine wpList_ld rfl _ _ rfl _ rfl _ HLD.out ?_)
        | (refine wpList_store_mid rfl 27 _ _ rfl (w.heap.size + 1 + 1) 2 _ rfl rfl HTH.out (by rw [bcs_size, HD.out.1]; exact size32) (bcs_one _) ?_; rw [HWD.out])
        | (refine wpList_ld rfl _ _ rfl _ rfl _ (HR2.out.own.load HR2.out.dx) ?_)
        | (refine wpList_store_row rfl 29 _ _ rfl (w.heap.size + 1) _ rfl rfl 29 _ HR2.out.out (Rq.sizeOf X2 HR2.out.dx) (Rq.sizes rq0 X2 rfl HR2.out.dx) (Rq.one X2) ?_; generalize hwZ : World.setRow _ _ _ = wZ; have HZ : Hid (Rd w wZ (w.heap.size + 1) (w.heap.size + 1 + 1) X2 X2) := Lib.hid (by rw [← hwZ]; exact HR2.out.ans X2 HR2.out.dx); clear hwZ))
    refine bodyPost_ret (HZ.out.out.res1 HZ.out.dy rfl _ rfl) rfl ?_
    exact ⟨X2, rfl, by rw [← HX2.out, ← HX1.out]; exact ⟨(HFT.out _ HZ.out.le).bs, HX.out.pc, HX.out.nc, HX.out.cm, HD.out, (Nat.zero_le 140737488355328 : (0 : Nat) ≤ 140737488355328), hs, by show _ ≤ (2 : Int) ∧ (2 : Int) ≤ _; omega, i64_zero, i64_zero⟩, by rw [HBN.out, ← HX2.out, ← HX1.out]; unfold Rq.rc; simp [rqKS, rq0, dg0]; try rfl, HZ.out.le, by rw [← HX2.out, ← HX1.out]; simp [bareQ, rqKS, rq0]⟩
  · have HC0 := Lib.hid ((HBX.out wS HK0.out).cells HX.out.dg.1)
    have HLD := Lib.hid (Mx.loadDig (P := Try.prog) (HBX.out wS HK0.out) 27 Try.underlying27 rfl (by rw [HX.out.dg.1]; exact size32) 2 rfl)
    have HTH : Hid (wS.there (w.heap.size + 1 + 1) 2 (bcs dg).size) := Lib.hid (by rw [bcs_size, HD.out.1]; exact Mx.there HR0.out.own 2 32 (by rw [HR0.out.dx]; simp [Rq.a, Rq.z]))
    obtain ⟨w1, hw1⟩ : ∃ W, wS.setCells (w.heap.size + 1 + 1) 2 (bcs dg).toList = W := ⟨_, rfl⟩
    have HK1 : Hid (w1.heap[w.heap.size]? = wA.heap[w.heap.size]?) := Lib.hid ((keep_cells hw1 _ (by omega)).trans HK0.out)
    have HWD := Lib.hid hw1
    obtain ⟨X1, hX1⟩ : ∃ X, { (rqKS 3 s) with dg := dg } = X := ⟨_, rfl⟩
    have HR1 : Hid (Rd w w1 (w.heap.size + 1) (w.heap.size + 1 + 1) rq0 X1) := Lib.hid (by rw [← hw1, ← hX1]; exact HR0.out.setDg dg HD.out.1)
    have HX1 := Lib.hid hX1
    clear hw1
    clear hX1
    have g2 := ((HBX.out w1 HK1.out).cells HX.out.dg.1).2.2.1
    have cl2 := (HR1.out.own.cells HR1.out.dx).2.2.1
    have fr2 := HR1.out.own.frozen 34
    obtain ⟨w2, hw2⟩ : ∃ W, w1.setCell ⟨w.heap.size + 1 + 1, 34, none⟩ (.string nm) = W := ⟨_, rfl⟩
    have HK2 : Hid (w2.heap[w.heap.size]? = wA.heap[w.heap.size]?) := Lib.hid ((keep_cell hw2 _ (by omega)).trans HK1.out)
    obtain ⟨X2, hX2⟩ : ∃ X, { X1 with nm := nm } = X := ⟨_, rfl⟩
    have HR2 : Hid (Rd w w2 (w.heap.size + 1) (w.heap.size + 1 + 1) rq0 X2) := Lib.hid (by rw [← hw2, ← hX2]; exact HR1.out.setNm nm)
    have HX2 := Lib.hid hX2
    clear hX2
    obtain ⟨e0, _⟩ := HC0.out
    clear HC0
    go_wp2_with (first
        | (refine wpList_ld rfl _ _ rfl _ rfl _ HLD.out ?_)
        | (refine wpList_store_mid rfl 27 _ _ rfl (w.heap.size + 1 + 1) 2 _ rfl rfl HTH.out (by rw [bcs_size, HD.out.1]; exact size32) (bcs_one _) ?_; rw [HWD.out])
        | (refine wpList_ld rfl _ _ rfl _ rfl _ (HR2.out.own.load HR2.out.dx) ?_)
        | (refine wpList_store_row rfl 29 _ _ rfl (w.heap.size + 1) _ rfl rfl 29 _ HR2.out.out (Rq.sizeOf X2 HR2.out.dx) (Rq.sizes rq0 X2 rfl HR2.out.dx) (Rq.one X2) ?_; generalize hwZ : World.setRow _ _ _ = wZ; have HZ : Hid (Rd w wZ (w.heap.size + 1) (w.heap.size + 1 + 1) X2 X2) := Lib.hid (by rw [← hwZ]; exact HR2.out.ans X2 HR2.out.dx); clear hwZ))
    refine bodyPost_ret (HZ.out.out.res1 HZ.out.dy rfl _ rfl) rfl ?_
    exact ⟨X2, rfl, by rw [← HX2.out, ← HX1.out]; exact ⟨Bs.empty _ _, fun _ => rfl, Nat.le_refl _, Nat.zero_le _, HD.out, HX.out.nm, hs, by show _ ≤ (3 : Int) ∧ (3 : Int) ≤ _; omega, i64_zero, i64_zero⟩, by rw [HBN.out, ← HX2.out, ← HX1.out]; unfold Rq.rc; simp [rqKS, rq0, dg0]; try rfl, HZ.out.le, by rw [← HX2.out, ← HX1.out]; simp [bareQ, rqKS, rq0]⟩
  · have HC0 := Lib.hid ((HBX.out wS HK0.out).cells HX.out.dg.1)
    have g1 := ((HBX.out wS HK0.out).cells HX.out.dg.1).2.2.1
    have cl1 := (HR0.out.own.cells HR0.out.dx).2.2.1
    have fr1 := HR0.out.own.frozen 34
    obtain ⟨w1, hw1⟩ : ∃ W, wS.setCell ⟨w.heap.size + 1 + 1, 34, none⟩ (.string nm) = W := ⟨_, rfl⟩
    have HK1 : Hid (w1.heap[w.heap.size]? = wA.heap[w.heap.size]?) := Lib.hid ((keep_cell hw1 _ (by omega)).trans HK0.out)
    obtain ⟨X1, hX1⟩ : ∃ X, { (rqKS 4 s) with nm := nm } = X := ⟨_, rfl⟩
    have HR1 : Hid (Rd w w1 (w.heap.size + 1) (w.heap.size + 1 + 1) rq0 X1) := Lib.hid (by rw [← hw1, ← hX1]; exact HR0.out.setNm nm)
    have HX1 := Lib.hid hX1
    clear hX1
    obtain ⟨e0, _⟩ := HC0.out
    clear HC0
    go_wp2_with (first
        | (refine wpList_ld rfl _ _ rfl _ rfl _ (HR1.out.own.load HR1.out.dx) ?_)
        | (refine wpList_store_row rfl 29 _ _ rfl (w.heap.size + 1) _ rfl rfl 29 _ HR1.out.out (Rq.sizeOf X1 HR1.out.dx) (Rq.sizes rq0 X1 rfl HR1.out.dx) (Rq.one X1) ?_; generalize hwZ : World.setRow _ _ _ = wZ; have HZ : Hid (Rd w wZ (w.heap.size + 1) (w.heap.size + 1 + 1) X1 X1) := Lib.hid (by rw [← hwZ]; exact HR1.out.ans X1 HR1.out.dx); clear hwZ))
    refine bodyPost_ret (HZ.out.out.res1 HZ.out.dy rfl _ rfl) rfl ?_
    exact ⟨X1, rfl, by rw [← HX1.out]; exact ⟨Bs.empty _ _, fun _ => rfl, Nat.le_refl _, Nat.zero_le _, dok_zero, HX.out.nm, hs, by show _ ≤ (4 : Int) ∧ (4 : Int) ≤ _; omega, i64_zero, i64_zero⟩, by rw [HBN.out, ← HX1.out]; unfold Rq.rc; simp [rqKS, rq0, dg0]; try rfl, HZ.out.le, by rw [← HX1.out]; simp [bareQ, rqKS, rq0]⟩
  · have HC0 := Lib.hid ((HBX.out wS HK0.out).cells HX.out.dg.1)
    have HLD := Lib.hid (Mx.loadDig (P := Try.prog) (HBX.out wS HK0.out) 27 Try.underlying27 rfl (by rw [HX.out.dg.1]; exact size32) 2 rfl)
    have HTH : Hid (wS.there (w.heap.size + 1 + 1) 2 (bcs dg).size) := Lib.hid (by rw [bcs_size, HD.out.1]; exact Mx.there HR0.out.own 2 32 (by rw [HR0.out.dx]; simp [Rq.a, Rq.z]))
    obtain ⟨w1, hw1⟩ : ∃ W, wS.setCells (w.heap.size + 1 + 1) 2 (bcs dg).toList = W := ⟨_, rfl⟩
    have HK1 : Hid (w1.heap[w.heap.size]? = wA.heap[w.heap.size]?) := Lib.hid ((keep_cells hw1 _ (by omega)).trans HK0.out)
    have HWD := Lib.hid hw1
    obtain ⟨X1, hX1⟩ : ∃ X, { (rqKS 5 s) with dg := dg } = X := ⟨_, rfl⟩
    have HR1 : Hid (Rd w w1 (w.heap.size + 1) (w.heap.size + 1 + 1) rq0 X1) := Lib.hid (by rw [← hw1, ← hX1]; exact HR0.out.setDg dg HD.out.1)
    have HX1 := Lib.hid hX1
    clear hw1
    clear hX1
    obtain ⟨e0, _⟩ := HC0.out
    clear HC0
    go_wp2_with (first
        | (refine wpList_ld rfl _ _ rfl _ rfl _ HLD.out ?_)
        | (refine wpList_store_mid rfl 27 _ _ rfl (w.heap.size + 1 + 1) 2 _ rfl rfl HTH.out (by rw [bcs_size, HD.out.1]; exact size32) (bcs_one _) ?_; rw [HWD.out])
        | (refine wpList_ld rfl _ _ rfl _ rfl _ (HR1.out.own.load HR1.out.dx) ?_)
        | (refine wpList_store_row rfl 29 _ _ rfl (w.heap.size + 1) _ rfl rfl 29 _ HR1.out.out (Rq.sizeOf X1 HR1.out.dx) (Rq.sizes rq0 X1 rfl HR1.out.dx) (Rq.one X1) ?_; generalize hwZ : World.setRow _ _ _ = wZ; have HZ : Hid (Rd w wZ (w.heap.size + 1) (w.heap.size + 1 + 1) X1 X1) := Lib.hid (by rw [← hwZ]; exact HR1.out.ans X1 HR1.out.dx); clear hwZ))
    refine bodyPost_ret (HZ.out.out.res1 HZ.out.dy rfl _ rfl) rfl ?_
    exact ⟨X1, rfl, by rw [← HX1.out]; exact ⟨Bs.empty _ _, fun _ => rfl, Nat.le_refl _, Nat.zero_le _, HD.out, (Nat.zero_le 140737488355328 : (0 : Nat) ≤ 140737488355328), hs, by show _ ≤ (5 : Int) ∧ (5 : Int) ≤ _; omega, i64_zero, i64_zero⟩, by rw [HBN.out, ← HX1.out]; unfold Rq.rc; simp [rqKS, rq0, dg0]; try rfl, HZ.out.le, by rw [← HX1.out]; simp [bareQ, rqKS, rq0]⟩
  · have HC0 := Lib.hid ((HBX.out wS HK0.out).cells HX.out.dg.1)
    have g1 := ((HBX.out wS HK0.out).cells HX.out.dg.1).2.2.2.2.2
    have cl1 := (HR0.out.own.cells HR0.out.dx).2.2.2.2.2
    have fr1 := HR0.out.own.frozen 37
    obtain ⟨w1, hw1⟩ : ∃ W, wS.setCell ⟨w.heap.size + 1 + 1, 37, none⟩ (.int .i64 Z) = W := ⟨_, rfl⟩
    have HK1 : Hid (w1.heap[w.heap.size]? = wA.heap[w.heap.size]?) := Lib.hid ((keep_cell hw1 _ (by omega)).trans HK0.out)
    obtain ⟨X1, hX1⟩ : ∃ X, { (rqKS 6 s) with Z := Z } = X := ⟨_, rfl⟩
    have HR1 : Hid (Rd w w1 (w.heap.size + 1) (w.heap.size + 1 + 1) rq0 X1) := Lib.hid (by rw [← hw1, ← hX1]; exact HR0.out.setZ Z)
    have HX1 := Lib.hid hX1
    clear hX1
    have g2 := ((HBX.out w1 HK1.out).cells HX.out.dg.1).2.2.2.2.1
    have cl2 := (HR1.out.own.cells HR1.out.dx).2.2.2.2.1
    have fr2 := HR1.out.own.frozen 36
    obtain ⟨w2, hw2⟩ : ∃ W, w1.setCell ⟨w.heap.size + 1 + 1, 36, none⟩ (.int .i64 N) = W := ⟨_, rfl⟩
    have HK2 : Hid (w2.heap[w.heap.size]? = wA.heap[w.heap.size]?) := Lib.hid ((keep_cell hw2 _ (by omega)).trans HK1.out)
    obtain ⟨X2, hX2⟩ : ∃ X, { X1 with N := N } = X := ⟨_, rfl⟩
    have HR2 : Hid (Rd w w2 (w.heap.size + 1) (w.heap.size + 1 + 1) rq0 X2) := Lib.hid (by rw [← hw2, ← hX2]; exact HR1.out.setN N)
    have HX2 := Lib.hid hX2
    clear hX2
    obtain ⟨e0, _⟩ := HC0.out
    clear HC0
    go_wp2_with (first
        | (refine wpList_ld rfl _ _ rfl _ rfl _ (HR2.out.own.load HR2.out.dx) ?_)
        | (refine wpList_store_row rfl 29 _ _ rfl (w.heap.size + 1) _ rfl rfl 29 _ HR2.out.out (Rq.sizeOf X2 HR2.out.dx) (Rq.sizes rq0 X2 rfl HR2.out.dx) (Rq.one X2) ?_; generalize hwZ : World.setRow _ _ _ = wZ; have HZ : Hid (Rd w wZ (w.heap.size + 1) (w.heap.size + 1 + 1) X2 X2) := Lib.hid (by rw [← hwZ]; exact HR2.out.ans X2 HR2.out.dx); clear hwZ))
    refine bodyPost_ret (HZ.out.out.res1 HZ.out.dy rfl _ rfl) rfl ?_
    exact ⟨X2, rfl, by rw [← HX2.out, ← HX1.out]; exact ⟨Bs.empty _ _, fun _ => rfl, Nat.le_refl _, Nat.zero_le _, dok_zero, (Nat.zero_le 140737488355328 : (0 : Nat) ≤ 140737488355328), hs, by show _ ≤ (6 : Int) ∧ (6 : Int) ≤ _; omega, hN, hZ⟩, by rw [HBN.out, ← HX2.out, ← HX1.out]; unfold Rq.rc; simp [rqKS, rq0, dg0]; try rfl, HZ.out.le, by rw [← HX2.out, ← HX1.out]; simp [bareQ, rqKS, rq0]⟩
  · have HC0 := Lib.hid ((HBX.out wS HK0.out).cells HX.out.dg.1)
    have g1 := ((HBX.out wS HK0.out).cells HX.out.dg.1).2.2.2.2.1
    have cl1 := (HR0.out.own.cells HR0.out.dx).2.2.2.2.1
    have fr1 := HR0.out.own.frozen 36
    obtain ⟨w1, hw1⟩ : ∃ W, wS.setCell ⟨w.heap.size + 1 + 1, 36, none⟩ (.int .i64 N) = W := ⟨_, rfl⟩
    have HK1 : Hid (w1.heap[w.heap.size]? = wA.heap[w.heap.size]?) := Lib.hid ((keep_cell hw1 _ (by omega)).trans HK0.out)
    obtain ⟨X1, hX1⟩ : ∃ X, { (rqKS 7 s) with N := N } = X := ⟨_, rfl⟩
    have HR1 : Hid (Rd w w1 (w.heap.size + 1) (w.heap.size + 1 + 1) rq0 X1) := Lib.hid (by rw [← hw1, ← hX1]; exact HR0.out.setN N)
    have HX1 := Lib.hid hX1
    clear hX1
    obtain ⟨e0, _⟩ := HC0.out
    clear HC0
    go_wp2_with (first
        | (refine wpList_ld rfl _ _ rfl _ rfl _ (HR1.out.own.load HR1.out.dx) ?_)
        | (refine wpList_store_row rfl 29 _ _ rfl (w.heap.size + 1) _ rfl rfl 29 _ HR1.out.out (Rq.sizeOf X1 HR1.out.dx) (Rq.sizes rq0 X1 rfl HR1.out.dx) (Rq.one X1) ?_; generalize hwZ : World.setRow _ _ _ = wZ; have HZ : Hid (Rd w wZ (w.heap.size + 1) (w.heap.size + 1 + 1) X1 X1) := Lib.hid (by rw [← hwZ]; exact HR1.out.ans X1 HR1.out.dx); clear hwZ))
    refine bodyPost_ret (HZ.out.out.res1 HZ.out.dy rfl _ rfl) rfl ?_
    exact ⟨X1, rfl, by rw [← HX1.out]; exact ⟨Bs.empty _ _, fun _ => rfl, Nat.le_refl _, Nat.zero_le _, dok_zero, (Nat.zero_le 140737488355328 : (0 : Nat) ≤ 140737488355328), hs, by show _ ≤ (7 : Int) ∧ (7 : Int) ≤ _; omega, hN, i64_zero⟩, by rw [HBN.out, ← HX1.out]; unfold Rq.rc; simp [rqKS, rq0, dg0]; try rfl, HZ.out.le, by rw [← HX1.out]; simp [bareQ, rqKS, rq0]⟩
  · have HC0 := Lib.hid ((HBX.out wS HK0.out).cells HX.out.dg.1)
    have g1 := ((HBX.out wS HK0.out).cells HX.out.dg.1).2.2.2.2.2
    have cl1 := (HR0.out.own.cells HR0.out.dx).2.2.2.2.2
    have fr1 := HR0.out.own.frozen 37
    obtain ⟨w1, hw1⟩ : ∃ W, wS.setCell ⟨w.heap.size + 1 + 1, 37, none⟩ (.int .i64 Z) = W := ⟨_, rfl⟩
    have HK1 : Hid (w1.heap[w.heap.size]? = wA.heap[w.heap.size]?) := Lib.hid ((keep_cell hw1 _ (by omega)).trans HK0.out)
    obtain ⟨X1, hX1⟩ : ∃ X, { (rqKS 8 s) with Z := Z } = X := ⟨_, rfl⟩
    have HR1 : Hid (Rd w w1 (w.heap.size + 1) (w.heap.size + 1 + 1) rq0 X1) := Lib.hid (by rw [← hw1, ← hX1]; exact HR0.out.setZ Z)
    have HX1 := Lib.hid hX1
    clear hX1
    have g2 := ((HBX.out w1 HK1.out).cells HX.out.dg.1).2.2.2.2.1
    have cl2 := (HR1.out.own.cells HR1.out.dx).2.2.2.2.1
    have fr2 := HR1.out.own.frozen 36
    obtain ⟨w2, hw2⟩ : ∃ W, w1.setCell ⟨w.heap.size + 1 + 1, 36, none⟩ (.int .i64 N) = W := ⟨_, rfl⟩
    have HK2 : Hid (w2.heap[w.heap.size]? = wA.heap[w.heap.size]?) := Lib.hid ((keep_cell hw2 _ (by omega)).trans HK1.out)
    obtain ⟨X2, hX2⟩ : ∃ X, { X1 with N := N } = X := ⟨_, rfl⟩
    have HR2 : Hid (Rd w w2 (w.heap.size + 1) (w.heap.size + 1 + 1) rq0 X2) := Lib.hid (by rw [← hw2, ← hX2]; exact HR1.out.setN N)
    have HX2 := Lib.hid hX2
    clear hX2
    obtain ⟨e0, _⟩ := HC0.out
    clear HC0
    go_wp2_with (first
        | (refine wpList_ld rfl _ _ rfl _ rfl _ (HR2.out.own.load HR2.out.dx) ?_)
        | (refine wpList_store_row rfl 29 _ _ rfl (w.heap.size + 1) _ rfl rfl 29 _ HR2.out.out (Rq.sizeOf X2 HR2.out.dx) (Rq.sizes rq0 X2 rfl HR2.out.dx) (Rq.one X2) ?_; generalize hwZ : World.setRow _ _ _ = wZ; have HZ : Hid (Rd w wZ (w.heap.size + 1) (w.heap.size + 1 + 1) X2 X2) := Lib.hid (by rw [← hwZ]; exact HR2.out.ans X2 HR2.out.dx); clear hwZ))
    refine bodyPost_ret (HZ.out.out.res1 HZ.out.dy rfl _ rfl) rfl ?_
    exact ⟨X2, rfl, by rw [← HX2.out, ← HX1.out]; exact ⟨Bs.empty _ _, fun _ => rfl, Nat.le_refl _, Nat.zero_le _, dok_zero, (Nat.zero_le 140737488355328 : (0 : Nat) ≤ 140737488355328), hs, by show _ ≤ (8 : Int) ∧ (8 : Int) ≤ _; omega, hN, hZ⟩, by rw [HBN.out, ← HX2.out, ← HX1.out]; unfold Rq.rc; simp [rqKS, rq0, dg0]; try rfl, HZ.out.le, by rw [← HX2.out, ← HX1.out]; simp [bareQ, rqKS, rq0]⟩

set_option maxRecDepth 100000 in
set_option maxHeartbeats 4000000 in
theorem own_out (x : Rq) (w : World) (hx : x.Fit w) (hk : x.k < 1 ∨ x.k > 8) :
    Calls Try.prog 34 #[x.v] w fun e w' => e = .returned (rqKS x.k x.s).v ∧ Below w.heap.size w w' := by
  obtain ⟨wA, hA, hm, hb, c0, c1, c34, c35, c36, c37⟩ := box_rec w x hx.dg.1
  have hsA : wA.heap.size = w.heap.size + 1 := by rw [← hA]; simp
  have HX := Lib.hid hx
  have HBX := Lib.hid fun W (hW : W.heap[w.heap.size]? = wA.heap[w.heap.size]?) => show Rm W w.heap.size x from Mx.keep hm hW
  have HB := Lib.hid hb
  have HSA := Lib.hid hsA
  have HNW : Hid (∀ Z : Obj, ((wA.alloc Z).alloc Z).heap[w.heap.size + 1 + 1]? = some Z) := Lib.hid fun Z => by rw [← hsA]; exact heap_alloc2_new _ _ _
  have HFT := Lib.hid fun W (hW : Below w.heap.size w W) => hx.later hW
  have HD := Lib.hid hx.dg
  have hs := hx.s
  have hN := hx.N
  have hZ := hx.Z
  unfold Rq.v
  obtain ⟨k, s, dg, nm, p, n, c, da, N, Z⟩ := x
  dsimp only at *
  generalize hM : mixC _ _ _ = M at *
  clear hM hx hm hb c34 c35 c36 c37
  go_enter Try.func34, Try.ntmps34
  go_upto_region 2 with (first
    | (refine wpList_build_is rfl 29 _ rfl (mixC (rqKS k s).a (rqKS k s).dg (rqKS k s).z) ?_ ?_; kernel_rfl)
    | (refine wpList_store_row rfl 29 _ _ rfl (w.heap.size + 1 + 1) _ rfl rfl 29 _ (HNW.out _) ((rqKS k s).sizeOf rfl) (Rq.sizes rq0 (rqKS k s) rfl rfl) (rqKS k s).one ?_; generalize hwS : World.setRow _ _ _ = wS))
  have HR0 : Hid (Rd w wS (w.heap.size + 1) (w.heap.size + 1 + 1) rq0 (rqKS k s)) := Lib.hid (by
    rw [← hwS]
    have h1 : Rd wA ((wA.alloc (.cells (mixC rq0.a rq0.dg rq0.z) 29)).alloc (.cells (mixC rq0.a rq0.dg rq0.z) 29)) wA.heap.size (wA.heap.size + 1) rq0 rq0 := Rd.start wA
    rw [HSA.out] at h1
    exact Rd.put ⟨h1.ne, by omega, by omega, h1.out, h1.own, below_step HB.out h1.le, h1.dy, h1.dx⟩ (rqKS k s) rfl)
  have HK0 : Hid (wS.heap[w.heap.size]? = wA.heap[w.heap.size]?) := Lib.hid (by rw [keep_row hwS _ (by omega), heap_alloc_old _ _ (by simp; rw [HSA.out]; omega), heap_alloc_old _ _ (by rw [HSA.out]; omega)])
  clear hwS c0 c1
  obtain ⟨e0, e1, _⟩ := (HBX.out wS HK0.out).cells HX.out.dg.1
  have n1 : (k == 1) = false := by simp; omega
  have n2 : (k == 2) = false := by simp; omega
  have n3 : (k == 3) = false := by simp; omega
  have n4 : (k == 4) = false := by simp; omega
  have n5 : (k == 5) = false := by simp; omega
  have n6 : (k == 6) = false := by simp; omega
  have n7 : (k == 7) = false := by simp; omega
  have n8 : (k == 8) = false := by simp; omega
  clear hk
  go_wp2_with (first
        | (refine wpList_ld rfl _ _ rfl _ rfl _ (HR0.out.own.load HR0.out.dx) ?_)
        | (refine wpList_store_row rfl 29 _ _ rfl (w.heap.size + 1) _ rfl rfl 29 _ HR0.out.out (Rq.sizeOf (rqKS k s) HR0.out.dx) (Rq.sizes rq0 (rqKS k s) rfl HR0.out.dx) (Rq.one (rqKS k s)) ?_; generalize hwZ : World.setRow _ _ _ = wZ; have HZ : Hid (Rd w wZ (w.heap.size + 1) (w.heap.size + 1 + 1) (rqKS k s) (rqKS k s)) := Lib.hid (by rw [← hwZ]; exact HR0.out.ans (rqKS k s) HR0.out.dx); clear hwZ))
  refine bodyPost_ret (HZ.out.out.res1 HZ.out.dy rfl _ rfl) rfl ?_
  exact ⟨rfl, HZ.out.le⟩
end Go.Proofs.Ytjdigncieoaglaa

namespace Go.Proofs.Ytjdigncieoaglaa
set_option linter.unusedVariables false
open Go.RowKit Go.Lib

def cMakeOk : Prop := ∀ (x : Rq) (w : World), x.Fit w → x.n ≤ 2097216 → Calls Try.prog 23 #[x.v] w fun e w' => ∃ v, e = .returned (.tuple #[v, .int .i64 (rightN x.rc)]) ∧ Ob w' w.heap.size 5 v (makeN x.rc) ∧ Below w.heap.size w w'
end Go.Proofs.Ytjdigncieoaglaa

namespace Go.Proofs.Ytjdigncieoaglaa
set_option linter.unusedVariables false

/-- at p's place p's record is read -/
def Stands (zs : List Int) (p : Rc × Int) : Prop := rpE zs p.2 = 0 ∧ rpR zs p.2 = bareN p.1 ∧ rpN zs p.2 = p.2 + (makeN p.1).length
theorem recPos_at (es : List Int) : ∀ (l : List Rc) (s : Int) (az : List Int), (∀ r ∈ l, r.Ok ∧ rightN r = 0) → 0 ≤ s → s + l.length ≤ 18446744073709551616 → ∀ p ∈ recPos l s (az.length : Int), Stands (az ++ framesN l s ++ es) p
  | [], s, az, _, _, _, p, hp => by simp [recPos] at hp
  | r :: l, s, az, hl, h0, h1, p, hp => by
    have hln : ((r :: l).length : Int) = (l.length : Int) + 1 := by simp
    rw [hln] at h1
    obtain ⟨hok, hri⟩ := hl r (by simp)
    have e1 : az ++ framesN (r :: l) s ++ es = az ++ makeN (r.num s) ++ (framesN l (s + 1) ++ es) := by simp [framesN, List.append_assoc]
    have e2 : az ++ framesN (r :: l) s ++ es = (az ++ makeN (r.num s)) ++ framesN l (s + 1) ++ es := by simp [framesN, List.append_assoc]
    unfold recPos at hp
    rcases List.mem_cons.1 hp with rfl | hp
    · have h := rp_made_at (hok.num s) (show rightN (r.num s) = 0 from hri) ⟨h0, by show s < _; omega⟩ az (framesN l (s + 1) ++ es)
      rw [← e1] at h
      exact h
    · rw [e2]
      have ha : (az.length : Int) + (makeN (r.num s)).length = ((az ++ makeN (r.num s)).length : Nat) := by simp
      rw [ha] at hp
      exact recPos_at es l (s + 1) (az ++ makeN (r.num s)) (fun x hx => hl x (by simp [hx])) (by omega) (by omega) p hp
theorem segPos_at (es : List Int) : ∀ (ls : List (List Rc)) (s : Int) (az : List Int), (∀ l ∈ ls, BatOk l) → 0 ≤ s → segS ls s ≤ 18446744073709551615 → ∀ p ∈ segPos ls s (az.length : Int), Stands (az ++ segN ls s ++ es) p
  | [], s, az, _, _, _, p, hp => by simp [segPos] at hp
  | l :: ls, s, az, hl, h0, h2, p, hp => by
    have hbo := hl l (by simp)
    have hls := segS_le ls (s + l.length + 1)
    have h2' : segS ls (s + l.length + 1) ≤ 18446744073709551615 := h2
    unfold segPos at hp
    rcases List.mem_append.1 hp with hp | hp
    · have e1 : az ++ segN (l :: ls) s ++ es = az ++ framesN l s ++ (makeN (commitN (s + l.length) l.length (framesN l s).length) ++ segN ls (s + l.length + 1) ++ es) := by simp [segN, batN, List.append_assoc]
      rw [e1]
      exact recPos_at _ l s az (fun r hr => ⟨hbo.ok r hr, (wrongN_zero hbo.wrong).2.2 r hr⟩) h0 (by omega) p hp
    · have e2 : az ++ segN (l :: ls) s ++ es = (az ++ batN l s) ++ segN ls (s + l.length + 1) ++ es := by simp [segN, List.append_assoc]
      have ha : (az.length : Int) + (batN l s).length = ((az ++ batN l s).length : Nat) := by simp
      rw [ha] at hp
      rw [e2]
      exact segPos_at es ls (s + l.length + 1) (az ++ batN l s) (fun m hm => hl m (by simp [hm])) (by omega) h2' p hp
theorem recPos_get {l : List Rc} {k : Nat} {r : Rc} (hr : l[k]? = some r) (s a : Int) : (recPos l s a)[k]? = some (r.num (s + k), a + (framesN (l.take k) s).length) := by
  induction l generalizing k s a with
  | nil => simp at hr
  | cons x l ih =>
    cases k with
    | zero =>
      simp only [List.getElem?_cons_zero, Option.some.injEq] at hr
      subst hr
      simp [recPos, framesN]
    | succ k =>
      have h := ih (k := k) (by simpa using hr) (s + 1) (a + (makeN (x.num s)).length)
      simp only [recPos, List.getElem?_cons_succ, h, List.take_succ_cons, framesN, List.length_append]
      have e1 : s + 1 + (k : Int) = s + ((k + 1 : Nat) : Int) := by omega
      rw [e1]
      congr 2
      push_cast
      omega
theorem recPos_num {l : List Rc} {s a : Int} {p : Rc × Int} (hp : p ∈ recPos l s a) : s ≤ p.1.s ∧ p.1.s < s + l.length := by
  obtain ⟨k, hk⟩ := List.mem_iff_getElem?.1 hp
  have hkl : k < l.length := by
    have := (List.getElem?_eq_some_iff.1 hk).1
    rwa [recPos_length] at this
  have h := recPos_get (List.getElem?_eq_getElem hkl) s a
  rw [hk] at h
  simp only [Option.some.injEq] at h
  subst h
  show s ≤ s + (k : Int) ∧ s + (k : Int) < s + l.length
  omega
theorem segPos_num : ∀ {ls : List (List Rc)} {s a : Int} {p : Rc × Int}, p ∈ segPos ls s a → s ≤ p.1.s
  | [], s, a, p, hp => by simp [segPos] at hp
  | l :: ls, s, a, p, hp => by
    unfold segPos at hp
    rcases List.mem_append.1 hp with hp | hp
    · exact (recPos_num hp).1
    · have := segPos_num hp
      omega
/-- the numbers rise -/
theorem segPos_rise : ∀ (ls : List (List Rc)) (s a : Int) (k : Nat) (p q : Rc × Int), (segPos ls s a)[k]? = some p → (segPos ls s a)[k + 1]? = some q → p.1.s < q.1.s
  | [], s, a, k, p, q, hp, _ => by simp [segPos] at hp
  | l :: ls, s, a, k, p, q, hp, hq => by
    unfold segPos at hp hq
    have hl := recPos_length l s a
    by_cases h1 : k + 1 < l.length
    · rw [List.getElem?_append_left (by omega)] at hp hq
      have h2 := recPos_get (List.getElem?_eq_getElem (show k < l.length by omega)) s a
      have h3 := recPos_get (List.getElem?_eq_getElem h1) s a
      rw [hp] at h2
      rw [hq] at h3
      simp only [Option.some.injEq] at h2 h3
      subst h2 h3
      show s + (k : Int) < s + ((k + 1 : Nat) : Int)
      omega
    by_cases h2 : k < l.length
    · rw [List.getElem?_append_left (by omega)] at hp
      rw [List.getElem?_append_right (by omega)] at hq
      have h3 := recPos_num (List.mem_of_getElem? hp)
      have h4 := segPos_num (List.mem_of_getElem? hq)
      omega
    · rw [List.getElem?_append_right (by omega)] at hp hq
      rw [hl] at hp hq
      rw [show k + 1 - l.length = (k - l.length) + 1 by omega] at hq
      exact segPos_rise ls _ _ (k - l.length) p q hp hq
end Go.Proofs.Ytjdigncieoaglaa

namespace Go.Proofs.Ytjdigncieoaglaa
set_option linter.unusedVariables false

/-- each word of a batch takes its bytes -/
theorem bp_count {zs : List Int} (hz : Byt zs) (seg from_ : Int) : ∀ (f : Nat) (a : Int) (out : List Wd), need zs a ≤ f → (bpR zs seg from_ a out).err = 0 → ((bpR zs seg from_ a out).ws.length : Int) * 21 + a ≤ (out.length : Int) * 21 + (bpR zs seg from_ a out).e
  | 0, a, out, hf, _ => by unfold need at hf; omega
  | f + 1, a, out, hf, he => by
    rw [bpR_step hz] at he ⊢
    by_cases h1 : rpE zs a = 0
    · obtain ⟨ha, hn, hl⟩ := rp_next hz h1
      rw [if_neg (by rw [h1]; simp)] at he ⊢
      split
      · rename_i h2; rw [if_pos h2] at he; simp [bpNo] at he
      rename_i h2
      rw [if_neg h2] at he
      split
      · show (out.length : Int) * 21 + a ≤ (out.length : Int) * 21 + rpN zs a
        omega
      rename_i h3
      rw [if_neg h3] at he
      split
      · rename_i h4; rw [if_pos h4] at he; simp [bpNo] at he
      rename_i h4
      rw [if_neg h4] at he
      have IH := bp_count hz seg from_ f _ _ (by unfold need at hf ⊢; omega) he
      rw [List.length_append, List.length_singleton] at IH
      push_cast at IH
      omega
    · rw [if_pos h1] at he
      exact absurd he h1
theorem bpF_count {zs : List Int} (hz : Byt zs) {a seg : Int} (h : (bpF zs a seg).err = 0) : ((bpF zs a seg).ws.length : Int) * 21 + a ≤ (bpF zs a seg).e ∧ (bpF zs a seg).ws ≠ [] := by
  rw [bpF_start hz] at h ⊢
  have h1 := bp_count hz seg a (need zs a) a [] (Nat.le_refl _) h
  have h2 := (bp_end hz seg a (need zs a) a [] (Nat.le_refl _) h).2.2.2
  simp only [List.length_nil] at h1
  exact ⟨by omega, h2⟩
/-- what has been built -/
structure Bd where
  err : Int
  b : List Int
  s : Int
  m : Nat
def bdGo : List (List Rc) → Int → List Int → Nat → Bd
  | [], s, b, m => ⟨0, b, s, m⟩
  | l :: ls, s, b, m => if bmE l s ≠ 0 then ⟨bmE l s, [], 0, 0⟩ else bdGo ls (s + l.length + 1) (b ++ batN l s) (m + l.length)
theorem bmE_zero {l : List Rc} {s : Int} (h : bmE l s = 0) : wrongN l = 0 ∧ s + l.length + 1 ≤ 18446744073709551615 := by
  unfold bmE at h
  by_cases h1 : wrongN l = 0
  · rw [if_neg (by rw [h1]; simp)] at h
    by_cases h2 : s + l.length + 1 > 18446744073709551615
    · rw [if_pos h2] at h; omega
    · exact ⟨h1, by omega⟩
  · rw [if_pos h1] at h
    exact absurd h h1
theorem bdGo_ok : ∀ (ls : List (List Rc)) (s : Int) (b : List Int) (m : Nat), s ≤ 18446744073709551615 → (bdGo ls s b m).err = 0 →
    (∀ l ∈ ls, wrongN l = 0) ∧ bdGo ls s b m = ⟨0, b ++ segN ls s, segS ls s, m + segM ls⟩ ∧ segS ls s ≤ 18446744073709551615
  | [], s, b, m, hs, _ => ⟨(fun l hl => by cases hl), by simp [bdGo, segN, segS, segM], hs⟩
  | l :: ls, s, b, m, hs, h => by
    unfold bdGo at h ⊢
    by_cases h1 : bmE l s = 0
    · rw [if_neg (by rw [h1]; simp)] at h ⊢
      obtain ⟨h2, h3⟩ := bmE_zero h1
      obtain ⟨h4, h5, h6⟩ := bdGo_ok ls _ _ _ h3 h
      refine ⟨fun x hx => ?_, ?_, h6⟩
      · rcases List.mem_cons.1 hx with rfl | hx
        · exact h2
        · exact h4 x hx
      · rw [h5]
        simp only [segN, segS, segM, List.append_assoc, Nat.add_assoc]
    · rw [if_pos h1] at h
      exact absurd h h1
/-- the number behind the header -/
def nxtU (s : Int) : Int := if s = 18446744073709551615 then 0 else s + 1
def bdG (n s : Int) (ls : List (List Rc)) : Bd := bdGo ls (nxtU s) (makeN (headN n s)) 0
def buE (n s : Int) (ls : List (List Rc)) (sl : Bool) : Int :=
  if rightN (headN n s) ≠ 0 then rightN (headN n s)
  else if (bdG n s ls).err ≠ 0 then (bdG n s ls).err
  else if sl = true then rightN (footN (bdG n s ls).s (bdG n s ls).m (bdG n s ls).b.length) else 0
def buB (n s : Int) (ls : List (List Rc)) (sl : Bool) : List Int :=
  if buE n s ls sl = 0 then (if sl = true then (bdG n s ls).b ++ makeN (footN (bdG n s ls).s (bdG n s ls).m (bdG n s ls).b.length) else (bdG n s ls).b) else []
/-- what is built is scanned -/
theorem bu_back {n s : Int} {ls : List (List Rc)} {sl : Bool} (h : buE n s ls sl = 0) (h0 : 0 ≤ s) (hs : s ≤ 1099511627776) (hok : ∀ l ∈ ls, ∀ r ∈ l, r.Ok) (hlen : ∀ l ∈ ls, l.length < 4294967296) (hfr : ∀ l ∈ ls, (framesN l 0).length < 4294967296) :
    (scF (buB n s ls sl) n).ws = posW n (segPos ls (s + 1) (makeN (headN n s)).length) ∧ (scF (buB n s ls sl) n).e = (buB n s ls sl).length ∧ (scF (buB n s ls sl) n).at_ = (buB n s ls sl).length ∧ (scF (buB n s ls sl) n).sealed_ = sl ∧ (scF (buB n s ls sl) n).err = 0 ∧
      ∀ p ∈ segPos ls (s + 1) ((makeN (headN n s)).length : Int), Stands (buB n s ls sl) p := by
  have hN : nxtU s = s + 1 := by unfold nxtU; rw [if_neg (by omega)]
  have hB : buB n s ls sl = if sl = true then (bdG n s ls).b ++ makeN (footN (bdG n s ls).s (bdG n s ls).m (bdG n s ls).b.length) else (bdG n s ls).b := by unfold buB; rw [if_pos h]
  unfold buE at h
  by_cases h1 : rightN (headN n s) = 0
  · rw [if_neg (by rw [h1]; simp)] at h
    by_cases h2 : (bdG n s ls).err = 0
    · rw [if_neg (by rw [h2]; simp)] at h
      have h2' : (bdGo ls (nxtU s) (makeN (headN n s)) 0).err = 0 := h2
      rw [hN] at h2'
      obtain ⟨h3, h4, h5⟩ := bdGo_ok ls (s + 1) (makeN (headN n s)) 0 (by omega) h2'
      have hG : bdG n s ls = ⟨0, makeN (headN n s) ++ segN ls (s + 1), segS ls (s + 1), segM ls⟩ := by
        unfold bdG
        rw [hN, h4, Nat.zero_add]
      rw [hG] at hB h
      dsimp only at hB h
      have hbo : ∀ l ∈ ls, BatOk l := fun l hl => ⟨hok l hl, h3 l hl, hlen l hl, hfr l hl⟩
      cases sl
      · rw [if_neg (by simp)] at hB
        have hq := seg_open h1 h0 hbo h5
        rw [hB, hq]
        refine ⟨rfl, by simp, by simp, rfl, rfl, fun p hp => ?_⟩
        have := segPos_at [] ls (s + 1) (makeN (headN n s)) hbo (by omega) h5 p hp
        rwa [List.append_nil] at this
      · rw [if_pos rfl] at hB h
        have hq := seg_sealed h1 h0 hbo h5 h rfl
        rw [hB, hq]
        exact ⟨rfl, rfl, rfl, rfl, rfl, fun p hp => segPos_at _ ls (s + 1) (makeN (headN n s)) hbo (by omega) h5 p hp⟩
    · rw [if_pos h2] at h
      exact absurd h h2
  · rw [if_pos h1] at h
    exact absurd h h1
theorem segM_take_succ {ls : List (List Rc)} {i : Nat} {l : List Rc} (h : ls[i]? = some l) : segM (ls.take (i + 1)) = segM (ls.take i) + l.length := by
  induction ls generalizing i with
  | nil => simp at h
  | cons x ls ih =>
    cases i with
    | zero =>
      simp only [List.getElem?_cons_zero, Option.some.injEq] at h
      subst h
      simp [segM]
    | succ i =>
      have := ih (i := i) (by simpa using h)
      simp only [List.take_succ_cons, segM, this]
      omega
/-- the record that a word tells of -/
theorem segPos_get : ∀ {ls : List (List Rc)} {i j : Nat} {l : List Rc} {r : Rc}, ls[i]? = some l → l[j]? = some r → ∀ (s a : Int), ∃ s' a', (segPos ls s a)[segM (ls.take i) + j]? = some (r.num s', a')
  | [], i, j, l, r, hl, _, s, a => by simp at hl
  | x :: ls, 0, j, l, r, hl, hr, s, a => by
    simp only [List.getElem?_cons_zero, Option.some.injEq] at hl
    subst hl
    have hj := (List.getElem?_eq_some_iff.1 hr).1
    refine ⟨s + (j : Int), a + (framesN (List.take j x) s).length, ?_⟩
    simp only [List.take_zero, segM, Nat.zero_add]
    unfold segPos
    rw [List.getElem?_append_left (by rw [recPos_length]; exact hj)]
    exact recPos_get hr s a
  | x :: ls, i + 1, j, l, r, hl, hr, s, a => by
    obtain ⟨s', a', h⟩ := segPos_get (ls := ls) (i := i) (by simpa using hl) hr (s + x.length + 1) (a + (batN x s).length)
    refine ⟨s', a', ?_⟩
    simp only [List.take_succ_cons, segM]
    unfold segPos
    rw [List.getElem?_append_right (by rw [recPos_length]; omega), recPos_length, show x.length + segM (ls.take i) + j - x.length = segM (ls.take i) + j by omega]
    exact h
theorem posW_get {n : Int} {l : List (Rc × Int)} {k : Nat} {p : Rc × Int} (h : l[k]? = some p) : (posW n l)[k]? = some (wordN (bareN p.1) n p.2 (makeN p.1).length) := by
  unfold posW
  rw [List.getElem?_map, h]
  rfl
end Go.Proofs.Ytjdigncieoaglaa

namespace Go.Proofs.Ytjdigncieoaglaa
set_option linter.unusedVariables false

/-- is it the footer of what was found? -/
def ftB (k s' N Z s m e : Int) : Bool := decide (k = 8 ∧ s < s' ∧ N = m ∧ Z = e)
theorem bpF_late {zs : List Int} (hz : Byt zs) {a seg : Int} (h : rpE zs a = 0) (hk : (rpR zs a).k > 5) : (bpF zs a seg).err = 3 := by
  rw [bpF_start hz, bpR_step hz, if_neg (by rw [h]; simp), if_neg (by simp), if_neg (by simp), if_pos hk]
  rfl
theorem scR_prog {zs : List Int} (hz : Byt zs) (n : Int) (ws : List Wd) (s e : Int) (he : 0 ≤ e) (hl : e < zs.length) : scR zs n ws s e =
    if (bpF zs e n).err ≠ 0 then
      if rpN zs e = zs.length ∧ ftB (rpR zs e).k (rpR zs e).s (rpR zs e).n (rpR zs e).z s ws.length e = true then ⟨ws, (rpR zs e).s, rpN zs e, true, rpN zs e, 0⟩
      else ⟨ws, s, e, false, e, (bpF zs e n).err⟩
    else if firstS (bpF zs e n).ws ≤ s then ⟨ws, s, e, false, e, 3⟩
    else scR zs n (ws ++ (bpF zs e n).ws) (bpF zs e n).s (bpF zs e n).e := by
  rw [scR_step hz, if_pos hl]
  by_cases h : rpE zs e = 0 ∧ (rpR zs e).k = 8
  · rw [if_pos h]
    have h3 : (bpF zs e n).err = 3 := bpF_late hz h.1 (by omega)
    have h4 : (bpF zs e n).err ≠ 0 := by rw [h3]; decide
    by_cases hg : (rpR zs e).s ≤ s ∨ (rpR zs e).n ≠ ws.length ∨ (rpR zs e).z ≠ e ∨ rpN zs e ≠ zs.length
    · rw [if_pos hg, if_pos h4, if_neg, h3]
      rintro ⟨h1, h2⟩
      obtain ⟨_, a1, a2, a3⟩ := of_decide_eq_true h2
      omega
    · rw [if_neg hg, if_pos h4, if_pos]
      exact ⟨by omega, decide_eq_true ⟨h.2, by omega, by omega, by omega⟩⟩
  · rw [if_neg h]
    by_cases hb : (bpF zs e n).err ≠ 0
    · rw [if_pos hb, if_pos hb, if_neg]
      rintro ⟨h1, h2⟩
      obtain ⟨a0, _⟩ := of_decide_eq_true h2
      by_cases hE : rpE zs e = 0
      · exact h ⟨hE, a0⟩
      · unfold rpN at h1
        rw [if_neg hE] at h1
        omega
    · rw [if_neg hb, if_neg hb]
/-- what scanFooter answers -/
def footF (zs : List Int) (ws : List Wd) (s e er : Int) : Sc :=
  if rpN zs e = zs.length ∧ ftB (rpR zs e).k (rpR zs e).s (rpR zs e).n (rpR zs e).z s ws.length e = true then ⟨ws, (rpR zs e).s, rpN zs e, true, 0, 0⟩ else ⟨ws, s, e, false, 0, er⟩
/-- what scanMore answers -/
def moreF (zs : List Int) (n : Int) (ws : List Wd) (s e : Int) : Sc :=
  if (bpF zs e n).err ≠ 0 then footF zs ws s e (bpF zs e n).err
  else if firstS (bpF zs e n).ws ≤ s then ⟨ws, s, e, false, 0, 3⟩
  else ⟨ws ++ (bpF zs e n).ws, (bpF zs e n).s, (bpF zs e n).e, false, 0, 0⟩
/-- what scanHeader answers -/
def headF (zs : List Int) (n : Int) : Sc :=
  if rpE zs 0 ≠ 0 then ⟨[], 0, 0, false, 0, rpE zs 0⟩ else if (rpR zs 0).k ≠ 7 ∨ (rpR zs 0).n ≠ n then ⟨[], 0, 0, false, 0, 3⟩ else ⟨[], (rpR zs 0).s, rpN zs 0, false, 0, 0⟩
/-- what stands at F, with the whole's scan -/
def scAt (F : Sc) : Sc := ⟨F.ws, F.s, F.e, F.sealed_, F.e, F.err⟩
structure Goes (zs : List Int) (n : Int) (F : Sc) : Prop where
  stop : ¬ (F.err = 0 ∧ F.e < zs.length) → scF zs n = scAt F
  go : F.err = 0 ∧ F.e < zs.length → F.sealed_ = false ∧ scF zs n = scR zs n F.ws F.s F.e
  lo : 0 ≤ F.e
  hi : F.e ≤ zs.length
  cnt : (F.ws.length : Int) * 21 ≤ F.e
  at_ : F.at_ = 0
theorem head_goes {zs : List Int} (hz : Byt zs) (n : Int) : Goes zs n (headF zs n) := by
  have h := scF_start hz n
  unfold headF
  by_cases h1 : rpE zs 0 = 0
  · obtain ⟨a1, a2, a3⟩ := rp_next hz h1
    rw [if_neg (by rw [h1]; simp)] at h ⊢
    by_cases h2 : (rpR zs 0).k ≠ 7 ∨ (rpR zs 0).n ≠ n
    · rw [if_pos h2] at h ⊢
      refine ⟨fun _ => h, ?_, Int.le_refl _, by show (0 : Int) ≤ _; omega, by simp, rfl⟩
      rintro ⟨h3, _⟩
      exact absurd h3 (by show ¬ (3 : Int) = 0; omega)
    · rw [if_neg h2] at h ⊢
      refine ⟨fun h3 => ?_, fun _ => ⟨rfl, h⟩, by show 0 ≤ rpN zs 0; omega, a3, by show ((0 : Nat) : Int) * 21 ≤ rpN zs 0; omega, rfl⟩
      rw [h, scR_step hz, if_neg]
      · rfl
      · exact fun h4 => h3 ⟨rfl, h4⟩
  · rw [if_pos h1] at h ⊢
    refine ⟨fun _ => h, ?_, Int.le_refl _, by show (0 : Int) ≤ _; omega, by simp, rfl⟩
    rintro ⟨h3, _⟩
    exact absurd h3 h1
theorem more_goes {zs : List Int} (hz : Byt zs) {n : Int} {F : Sc} (h : Goes zs n F) (h0 : F.err = 0) (hl : F.e < zs.length) : Goes zs n (moreF zs n F.ws F.s F.e) ∧ ((moreF zs n F.ws F.s F.e).err = 0 → F.e < (moreF zs n F.ws F.s F.e).e) := by
  obtain ⟨_, hg⟩ := h.go ⟨h0, hl⟩
  have hlo := h.lo
  have hc := h.cnt
  rw [scR_prog hz n F.ws F.s F.e hlo hl] at hg
  unfold moreF
  by_cases hb : (bpF zs F.e n).err = 0
  · obtain ⟨b1, b2, b3⟩ := bpF_end hz hb
    obtain ⟨b4, _⟩ := bpF_count hz hb
    rw [if_neg (by rw [hb]; simp)] at hg
    rw [if_neg (by rw [hb]; simp)]
    by_cases hq : firstS (bpF zs F.e n).ws ≤ F.s
    · rw [if_pos hq] at hg
      rw [if_pos hq]
      exact ⟨⟨fun _ => hg, fun h3 => absurd h3.1 (by show ¬ (3 : Int) = 0; omega), hlo, h.hi, hc, rfl⟩, fun h3 => absurd h3 (by show ¬ (3 : Int) = 0; omega)⟩
    · rw [if_neg hq] at hg
      rw [if_neg hq]
      refine ⟨⟨fun h3 => ?_, fun _ => ⟨rfl, hg⟩, by show 0 ≤ (bpF zs F.e n).e; omega, b3, ?_, rfl⟩, fun _ => by show F.e < (bpF zs F.e n).e; omega⟩
      · rw [hg, scR_step hz, if_neg]
        · rfl
        · exact fun h4 => h3 ⟨rfl, h4⟩
      · show ((F.ws ++ (bpF zs F.e n).ws).length : Int) * 21 ≤ (bpF zs F.e n).e
        rw [List.length_append]
        push_cast
        omega
  · rw [if_pos hb] at hg
    rw [if_pos hb]
    unfold footF
    by_cases hf : rpN zs F.e = zs.length ∧ ftB (rpR zs F.e).k (rpR zs F.e).s (rpR zs F.e).n (rpR zs F.e).z F.s F.ws.length F.e = true
    · rw [if_pos hf] at hg
      rw [if_pos hf]
      have h4 := hf.1
      refine ⟨⟨fun _ => hg, fun h3 => absurd h3.2 (by show ¬ rpN zs F.e < _; omega), by show 0 ≤ rpN zs F.e; omega, by show rpN zs F.e ≤ _; omega, by show (F.ws.length : Int) * 21 ≤ rpN zs F.e; omega, rfl⟩, fun _ => by show F.e < rpN zs F.e; omega⟩
    · rw [if_neg hf] at hg
      rw [if_neg hf]
      exact ⟨⟨fun _ => hg, fun h3 => absurd h3.1 hb, hlo, h.hi, hc, rfl⟩, fun h3 => absurd h3 hb⟩
end Go.Proofs.Ytjdigncieoaglaa

namespace Go.Proofs.Ytjdigncieoaglaa
set_option linter.unusedVariables false
open Go.RowKit Go.Lib

def cParseOk : Prop := ∀ (p : Option Addr) (len cap : Nat) (zs : List Int) (a : Int) (w : World), Bs w p len zs → (p = none → cap = 0) → len ≤ cap → cap ≤ maxLen → len ≤ 2097216 → (-9223372036854775808 ≤ a ∧ a ≤ 9223372036854775807) →
    Calls Try.prog 37 #[.slice p len cap, .int .i64 a] w fun e w' => RpQ w zs a e w'
end Go.Proofs.Ytjdigncieoaglaa

namespace Go.Proofs.Ytjdigncieoaglaa
set_option linter.unusedVariables false
open Go.RowKit Go.Lib

def cWordOk : Prop := ∀ (x : Rq) (seg off len : Int) (w : World), x.Fit w → x.n ≤ 2097216 → Calls Try.prog 56 #[x.v, locV seg off len] w fun e w' => e = .returned (wordQ x seg off len).v ∧ Below w.heap.size w w'
end Go.Proofs.Ytjdigncieoaglaa
