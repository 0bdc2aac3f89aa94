/- Records as they lie in memory -/
import Derived.Test.YtjdigncieoaglaaSt2
import Derived.Test.YtjdigncieoaglaaSt7
import Derived.Test.YtjdigncieoaglaaSt9
set_option linter.unusedSimpArgs false
set_option linter.unusedVariables false
namespace Go.Proofs.Ytjdigncieoaglaa
set_option linter.unusedVariables false
open Go.RowKit Go.Lib

/-- a record as it lies in memory, with the bytes that its data reads as -/
structure Rq where
  k : Int
  s : Int
  dg : List Int
  nm : ByteArray
  p : Option Addr
  n : Nat
  c : Nat
  da : List Int
  N : Int
  Z : Int
def Rq.a (x : Rq) : List Value := [.int .i64 x.k, .int .u64 x.s]
def Rq.z (x : Rq) : List Value := [.string x.nm, .slice x.p x.n x.c, .int .i64 x.N, .int .i64 x.Z]
def Rq.v (x : Rq) : Value := .agg (mixC x.a x.dg x.z)
def Rq.rc (x : Rq) : Rc := ⟨x.k, x.s, x.dg, numsOf x.nm, x.da, x.N, x.Z⟩
/-- what makes it one -/
structure Rq.Fit (x : Rq) (w : World) : Prop where
  bs : Bs w x.p x.n x.da
  pc : x.p = none → x.c = 0
  nc : x.n ≤ x.c
  cm : x.c ≤ maxLen
  dg : dok x.dg
  nm : x.nm.size ≤ 140737488355328
  s : 0 ≤ x.s ∧ x.s < 18446744073709551616
  k : -9223372036854775808 ≤ x.k ∧ x.k ≤ 9223372036854775807
  N : -9223372036854775808 ≤ x.N ∧ x.N ≤ 9223372036854775807
  Z : -9223372036854775808 ≤ x.Z ∧ x.Z ≤ 9223372036854775807
theorem Rq.Fit.later {x : Rq} {w w' : World} (h : x.Fit w) (hb : Below w.heap.size w w') : x.Fit w' := ⟨h.bs.later hb, h.pc, h.nc, h.cm, h.dg, h.nm, h.s, h.k, h.N, h.Z⟩
theorem Rq.Fit.ok {x : Rq} {w : World} (h : x.Fit w) : x.rc.Ok := ⟨h.dg.2, h.dg.1, numsOf_byte x.nm, h.bs.byte⟩
/-- the record of zeroes -/
def rq0 : Rq := ⟨0, 0, dg0, ⟨#[]⟩, none, 0, 0, [], 0, 0⟩
theorem rq0_fit (w : World) : rq0.Fit w := ⟨Bs.empty _ _, fun _ => rfl, Nat.le_refl _, Nat.zero_le _, dok_zero, by decide, by decide, by decide, by decide, by decide⟩
theorem rq0_rc : rq0.rc = rc0 := rfl
/-- block b holds a record -/
def Rm (w : World) (b : Nat) (x : Rq) : Prop := Mx w b 29 x.a x.dg x.z
theorem Rm.later {w w' : World} {b : Nat} {x : Rq} (h : Rm w b x) (hb : Below w.heap.size w w') : Rm w' b x := Mx.later h hb
theorem Rm.new (w : World) (x : Rq) : Rm (w.alloc (.cells (mixC x.a x.dg x.z) 29)) w.heap.size x := heap_alloc_new _ _
theorem Rm.cells {w : World} {b : Nat} {x : Rq} (h : Rm w b x) (hd : x.dg.length = 32) :
    w.cell? ⟨b, 0, none⟩ = some (.int .i64 x.k) ∧ w.cell? ⟨b, 1, none⟩ = some (.int .u64 x.s) ∧ w.cell? ⟨b, 34, none⟩ = some (.string x.nm) ∧ w.cell? ⟨b, 35, none⟩ = some (.slice x.p x.n x.c) ∧ w.cell? ⟨b, 36, none⟩ = some (.int .i64 x.N) ∧ w.cell? ⟨b, 37, none⟩ = some (.int .i64 x.Z) :=
  ⟨Mx.first h 0 _ rfl, Mx.first h 1 _ rfl, Mx.last h hd 0 _ rfl, Mx.last h hd 1 _ rfl, Mx.last h hd 2 _ rfl, Mx.last h hd 3 _ rfl⟩
theorem size38 : (Try.prog.info? 29).map (·.size) = some 38 := by kernel_rfl
theorem Rq.size (x : Rq) (hd : x.dg.length = 32) : (mixC x.a x.dg x.z).size = 38 := by rw [mixC_size, hd]; rfl
theorem Rq.sizeOf (x : Rq) (hd : x.dg.length = 32) : (Try.prog.info? 29).map (·.size) = some (mixC x.a x.dg x.z).size := by rw [x.size hd]; exact size38
theorem Rq.one (x : Rq) : (mixC x.a x.dg x.z).all (·.oneCell') = true := mixC_one (by simp [Rq.a, Value.oneCell']) (by simp [Rq.z, Value.oneCell'])
theorem Rm.load {w : World} {b : Nat} {x : Rq} (h : Rm w b x) (hd : x.dg.length = 32) : (Instr.loadAt 29 (.pointer (some ⟨b, 0, none⟩))).run Try.prog w = .ok (.agg (mixC x.a x.dg x.z)) w :=
  Mx.load h _ Try.underlying29 rfl (x.sizeOf hd)
/-- the digest's bytes, as a slice of them reads -/
theorem Rm.dig {w : World} {b : Nat} {x : Rq} (h : Rm w b x) (hd : dok x.dg) : Bs w (some ⟨b, 2, none⟩) 32 x.dg :=
  ⟨hd.1, hd.2, Or.inr ⟨b, 2, rfl, fun j hj => Mx.dig h j (by rw [hd.1]; exact hj)⟩⟩
/-- a record stored over another one -/
theorem Rm.row {w : World} {b : Nat} {x y : Rq} (h : Rm w b x) : Rm (w.setRow b (mixC y.a y.dg y.z)) b y := Mx.row h
theorem Rm.setN {w : World} {b : Nat} {x : Rq} (h : Rm w b x) (hd : x.dg.length = 32) (N : Int) : Rm (w.setCell ⟨b, 36, none⟩ (.int .i64 N)) b { x with N := N } := Mx.setLast h hd 2 _
theorem Rm.setZ {w : World} {b : Nat} {x : Rq} (h : Rm w b x) (hd : x.dg.length = 32) (Z : Int) : Rm (w.setCell ⟨b, 37, none⟩ (.int .i64 Z)) b { x with Z := Z } := Mx.setLast h hd 3 _
theorem Rm.setNm {w : World} {b : Nat} {x : Rq} (h : Rm w b x) (hd : x.dg.length = 32) (nm : ByteArray) : Rm (w.setCell ⟨b, 34, none⟩ (.string nm)) b { x with nm := nm } := Mx.setLast h hd 0 _
theorem Rm.setDa {w : World} {b : Nat} {x : Rq} (h : Rm w b x) (hd : x.dg.length = 32) (p : Option Addr) (n c : Nat) (da : List Int) : Rm (w.setCell ⟨b, 35, none⟩ (.slice p n c)) b { x with p := p, n := n, c := c, da := da } := Mx.setLast h hd 1 _
theorem Rm.setS {w : World} {b : Nat} {x : Rq} (h : Rm w b x) (s : Int) : Rm (w.setCell ⟨b, 1, none⟩ (.int .u64 s)) b { x with s := s } := Mx.setFirst h 1 (by show 1 < 2; decide) _
theorem Rm.setK {w : World} {b : Nat} {x : Rq} (h : Rm w b x) (k : Int) : Rm (w.setCell ⟨b, 0, none⟩ (.int .i64 k)) b { x with k := k } := Mx.setFirst h 0 (by show 0 < 2; decide) _
theorem Rm.setDg {w : World} {b : Nat} {x : Rq} (h : Rm w b x) (hd : x.dg.length = 32) (dg : List Int) (hl : dg.length = 32) : Rm (w.setCells b 2 (dg.map (Value.int .u8))) b { x with dg := dg } := Mx.setDig h (by rw [hl, hd]) 2 rfl
end Go.Proofs.Ytjdigncieoaglaa
