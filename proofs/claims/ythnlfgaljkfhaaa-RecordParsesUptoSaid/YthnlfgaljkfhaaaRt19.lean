/- A function's records: the one that it makes, and the one that it answers; Words as they lie in memory: what a record says -/
import Derived.Test.YthnlfgaljkfhaaaRt2
import Derived.Test.YthnlfgaljkfhaaaRt10
import Derived.Deep.DeepCutAuto
import Derived.Laws.ResultCell
set_option linter.unusedSimpArgs false
set_option linter.unusedVariables false
namespace Go.Proofs.Ythnlfgaljkfhaaa
set_option linter.unusedVariables false
open Go.RowKit Go.Lib

theorem results_cell_tmp2 {fn : Func} {p u v : Tmp} {ty : TypeId} (h : fn.results = #[.cell p ty, .tmp u, .tmp v]) (tmps : Array Value) (P : Program) (w : World) :
    (results fn tmps).run P w = ((asAddr (tmps.getD p undef)).run P w).andThen fun a w₁ => ((loadVar ty a).run P w₁).andThen fun x w₂ => .ok (.tuple #[x, tmps.getD u undef, tmps.getD v undef]) w₂ := by
  simp only [results, h]
  simp [Sem.run_bind, Result.andThen]
theorem Rm.loadVar {w : World} {g : Nat} {x : Rq} (hg : Rm w g x) (hd : x.dg.length = 32) : (Go.loadVar 27 ⟨g, 0, none⟩).run Try.prog w = .ok x.v w :=
  run_loadVar_mid w g 0 27 _ _ (Mx.range hg) Try.underlying27 rfl (by rw [mixL_length, hd]; exact size38)
theorem Rm.res2 {fn : Func} {p u : Tmp} {w : World} {g : Nat} {x : Rq} (hg : Rm w g x) (hd : x.dg.length = 32) (h : fn.results = #[.cell p 27, .tmp u]) (tmps : Array Value)
    (hp : tmps.getD p undef = .pointer (some ⟨g, 0, none⟩)) : (Go.results fn tmps).run Try.prog w = .ok (.tuple #[x.v, tmps.getD u undef]) w := by
  rw [results_cell_tmp h, hp]
  simp only [asAddr, Sem.run_pure, Result.andThen]
  rw [hg.loadVar hd]
theorem Rm.res3 {fn : Func} {p u v : Tmp} {w : World} {g : Nat} {x : Rq} (hg : Rm w g x) (hd : x.dg.length = 32) (h : fn.results = #[.cell p 27, .tmp u, .tmp v]) (tmps : Array Value)
    (hp : tmps.getD p undef = .pointer (some ⟨g, 0, none⟩)) : (Go.results fn tmps).run Try.prog w = .ok (.tuple #[x.v, tmps.getD u undef, tmps.getD v undef]) w := by
  rw [results_cell_tmp2 h, hp]
  simp only [asAddr, Sem.run_pure, Result.andThen]
  rw [hg.loadVar hd]

/-- blocks g and h of a call from world w: the record that it answers, the record that it makes -/
structure Rd (w W : World) (g h : Nat) (y x : Rq) : Prop where
  ne : g ≠ h
  lo : w.heap.size ≤ g
  lo' : w.heap.size ≤ h
  out : Rm W g y
  own : Rm W h x
  le : Below w.heap.size w W
  dy : y.dg.length = 32
  dx : x.dg.length = 32
section
variable {w W W' : World} {g h : Nat} {x y : Rq}
theorem Rd.later (r : Rd w W g h y x) (hb : Below W.heap.size W W') : Rd w W' g h y x := ⟨r.ne, r.lo, r.lo', r.out.later hb, r.own.later hb, below_step r.le hb, r.dy, r.dx⟩
theorem Rd.gt (r : Rd w W g h y x) : h < W.heap.size := Mx.lt r.own
theorem Rd.cell (r : Rd w W g h y x) (j : Nat) (v : Value) (z : Rq) (hz : Rm (W.setCell ⟨h, j, none⟩ v) h z) (dz : z.dg.length = 32) : Rd w (W.setCell ⟨h, j, none⟩ v) g h y z :=
  ⟨r.ne, r.lo, r.lo', Mx.other r.out _ _ r.ne, hz, r.le.setCell r.lo' _, r.dy, dz⟩
theorem Rd.setN (r : Rd w W g h y x) (N : Int) : Rd w (W.setCell ⟨h, 36, none⟩ (.int .i64 N)) g h y { x with N := N } := r.cell _ _ _ (r.own.setN r.dx N) r.dx
theorem Rd.setZ (r : Rd w W g h y x) (Z : Int) : Rd w (W.setCell ⟨h, 37, none⟩ (.int .i64 Z)) g h y { x with Z := Z } := r.cell _ _ _ (r.own.setZ r.dx Z) r.dx
theorem Rd.setNm (r : Rd w W g h y x) (nm : ByteArray) : Rd w (W.setCell ⟨h, 34, none⟩ (.string nm)) g h y { x with nm := nm } := r.cell _ _ _ (r.own.setNm r.dx nm) r.dx
theorem Rd.setDa (r : Rd w W g h y x) (p : Option Addr) (n c : Nat) (da : List Int) : Rd w (W.setCell ⟨h, 35, none⟩ (.slice p n c)) g h y { x with p := p, n := n, c := c, da := da } := r.cell _ _ _ (r.own.setDa r.dx p n c da) r.dx
theorem Rd.setS (r : Rd w W g h y x) (s : Int) : Rd w (W.setCell ⟨h, 1, none⟩ (.int .u64 s)) g h y { x with s := s } := r.cell _ _ _ (r.own.setS s) r.dx
theorem Rd.setDg (r : Rd w W g h y x) (dg : List Int) (hl : dg.length = 32) : Rd w (W.setCells h 2 (bcs dg).toList) g h y { x with dg := dg } := by
  rw [show (bcs dg).toList = dg.map (Value.int .u8) by simp [bcs]]
  exact ⟨r.ne, r.lo, r.lo', Mx.keep r.out (setCells_other h g r.ne _ _ _), r.own.setDg r.dx dg hl, below_setCells r.lo' _ _ _ r.le, r.dy, hl⟩
/-- the record is made whole -/
theorem Rd.put (r : Rd w W g h y x) (z : Rq) (dz : z.dg.length = 32) : Rd w (W.setRow h (mixC z.a z.dg z.z)) g h y z :=
  ⟨r.ne, r.lo, r.lo', Mx.keep r.out (setRow_other W h g _ r.ne), r.own.row, below_setRow8 r.le h _ r.lo', r.dy, dz⟩
/-- .. and answered -/
theorem Rd.ans (r : Rd w W g h y x) (z : Rq) (dz : z.dg.length = 32) : Rd w (W.setRow g (mixC z.a z.dg z.z)) g h z x :=
  ⟨r.ne, r.lo, r.lo', r.out.row, Mx.keep r.own (setRow_other W g h _ r.ne.symm), below_setRow8 r.le g _ r.lo, dz, r.dx⟩
end
theorem Rq.sizes (x y : Rq) (hx : x.dg.length = 32) (hy : y.dg.length = 32) : (mixC x.a x.dg x.z).size = (mixC y.a y.dg y.z).size := by rw [x.size hx, y.size hy]
/-- a record of a kind, all else zero -/
def rqK (k : Int) : Rq := { rq0 with k := k }
theorem rq0C : mixC rq0.a rq0.dg rq0.z = #[.int .i64 0, .int .u64 0, .int .u8 0, .int .u8 0, .int .u8 0, .int .u8 0, .int .u8 0, .int .u8 0, .int .u8 0, .int .u8 0, .int .u8 0, .int .u8 0, .int .u8 0, .int .u8 0, .int .u8 0, .int .u8 0, .int .u8 0, .int .u8 0, .int .u8 0, .int .u8 0, .int .u8 0, .int .u8 0, .int .u8 0, .int .u8 0, .int .u8 0, .int .u8 0, .int .u8 0, .int .u8 0, .int .u8 0, .int .u8 0, .int .u8 0, .int .u8 0, .int .u8 0, .int .u8 0, .string ⟨#[]⟩, .slice none 0 0, .int .i64 0, .int .i64 0] := rfl
end Go.Proofs.Ythnlfgaljkfhaaa

namespace Go.Proofs.Ythnlfgaljkfhaaa
set_option linter.unusedVariables false
open Go.RowKit Go.Lib

/-- a word -/
structure Wq where
  k : Int
  s : Int
  dg : List Int
  nm : ByteArray
  z : Int
  seg : Int
  off : Int
  len : Int
def Wq.a (x : Wq) : List Value := [.int .i64 x.k, .int .u64 x.s]
def Wq.t (x : Wq) : List Value := [.string x.nm, .int .i64 x.z, .int .i64 x.seg, .int .i64 x.off, .int .i64 x.len]
def Wq.v (x : Wq) : Value := .agg (mixC x.a x.dg x.t)
def wq0 : Wq := ⟨0, 0, dg0, ⟨#[]⟩, 0, 0, 0, 0⟩
theorem wq0C : mixC wq0.a wq0.dg wq0.t = #[.int .i64 0, .int .u64 0, .int .u8 0, .int .u8 0, .int .u8 0, .int .u8 0, .int .u8 0, .int .u8 0, .int .u8 0, .int .u8 0, .int .u8 0, .int .u8 0, .int .u8 0, .int .u8 0, .int .u8 0, .int .u8 0, .int .u8 0, .int .u8 0, .int .u8 0, .int .u8 0, .int .u8 0, .int .u8 0, .int .u8 0, .int .u8 0, .int .u8 0, .int .u8 0, .int .u8 0, .int .u8 0, .int .u8 0, .int .u8 0, .int .u8 0, .int .u8 0, .int .u8 0, .int .u8 0, .string ⟨#[]⟩, .int .i64 0, .int .i64 0, .int .i64 0, .int .i64 0] := rfl
/-- block b holds a word -/
def Wm (w : World) (b : Nat) (x : Wq) : Prop := Mx w b 39 x.a x.dg x.t
theorem size39 : (Try.prog.info? 39).map (·.size) = some 39 := by kernel_rfl
theorem Wq.size (x : Wq) (hd : x.dg.length = 32) : (mixC x.a x.dg x.t).size = 39 := by rw [mixC_size, hd]; rfl
theorem Wq.sizeOf (x : Wq) (hd : x.dg.length = 32) : (Try.prog.info? 39).map (·.size) = some (mixC x.a x.dg x.t).size := by rw [x.size hd]; exact size39
theorem Wq.sizes (x y : Wq) (hx : x.dg.length = 32) (hy : y.dg.length = 32) : (mixC x.a x.dg x.t).size = (mixC y.a y.dg y.t).size := by rw [x.size hx, y.size hy]
theorem Wq.one (x : Wq) : (mixC x.a x.dg x.t).all (·.oneCell') = true := mixC_one (by simp [Wq.a, Value.oneCell']) (by simp [Wq.t, Value.oneCell'])
theorem Wm.load {w : World} {b : Nat} {x : Wq} (h : Wm w b x) (hd : x.dg.length = 32) : (Instr.loadAt 39 (.pointer (some ⟨b, 0, none⟩))).run Try.prog w = .ok (.agg (mixC x.a x.dg x.t)) w :=
  Mx.load h _ Try.underlying39 rfl (x.sizeOf hd)
theorem Wm.res1 {fn : Func} {p : Tmp} {w : World} {g : Nat} {x : Wq} (hg : Wm w g x) (hd : x.dg.length = 32) (h : fn.results = #[.cell p 39]) (tmps : Array Value)
    (hp : tmps.getD p undef = .pointer (some ⟨g, 0, none⟩)) : (Go.results fn tmps).run Try.prog w = .ok x.v w :=
  results_cell_row h tmps w g _ _ _ _ hp hg Try.underlying39 rfl (x.sizeOf hd)
theorem Wm.cells {w : World} {b : Nat} {x : Wq} (h : Wm w b x) (hd : x.dg.length = 32) : w.cell? ⟨b, 34, none⟩ = some (.string x.nm) ∧ w.cell? ⟨b, 35, none⟩ = some (.int .i64 x.z) := ⟨Mx.last h hd 0 _ rfl, Mx.last h hd 1 _ rfl⟩
theorem Wm.setNm {w : World} {b : Nat} {x : Wq} (h : Wm w b x) (hd : x.dg.length = 32) (nm : ByteArray) : Wm (w.setCell ⟨b, 34, none⟩ (.string nm)) b { x with nm := nm } := Mx.setLast h hd 0 _
theorem Wm.setZ {w : World} {b : Nat} {x : Wq} (h : Wm w b x) (hd : x.dg.length = 32) (z : Int) : Wm (w.setCell ⟨b, 35, none⟩ (.int .i64 z)) b { x with z := z } := Mx.setLast h hd 1 _
theorem Wm.setDg {w : World} {b : Nat} {x : Wq} (h : Wm w b x) (hd : x.dg.length = 32) (dg : List Int) (hl : dg.length = 32) : Wm (w.setCells b 2 (bcs dg).toList) b { x with dg := dg } := by
  rw [show (bcs dg).toList = dg.map (Value.int .u8) by simp [bcs]]
  exact Mx.setDig h (by rw [hl, hd]) 2 rfl
/-- a place, as a value -/
def locV (seg off len : Int) : Value := .agg #[.int .i64 seg, .int .i64 off, .int .i64 len]
/-- what a record says at a place -/
def wordQ (x : Rq) (seg off len : Int) : Wq :=
  if x.k < 1 ∨ x.k > 8 then ⟨x.k, x.s, dg0, ⟨#[]⟩, 0, seg, off, len⟩
  else ⟨x.k, x.s, if x.k ≤ 3 ∨ x.k = 5 then x.dg else dg0, if x.k = 3 ∨ x.k = 4 then x.nm else ⟨#[]⟩, if x.k ≤ 2 then x.n else if x.k = 6 ∨ x.k = 8 then x.Z else 0, seg, off, len⟩
end Go.Proofs.Ythnlfgaljkfhaaa
