/- A function's records: the one that it makes, and the one that it answers; Words as they lie in memory: what a record says; Layer 14: what records are, in memory and plainly: what all its walks want; Plain mathematics of package batch; Layer 14, the reference: Bare; Plain mathematics of package batch: a batch is read frame by frame, whatever the fuel; Layer 14: what the laws want of Right; Layer 14 -/
import Derived.Test.YtcjflabipkppfaaBt2
import Derived.Test.YtcjflabipkppfaaBt9
import Derived.Test.YtcjflabipkppfaaBt10
import Derived.Deep.DeepCutAuto
import Derived.Laws.ResultCell
set_option linter.unusedSimpArgs false
set_option linter.unusedVariables false
namespace Go.Proofs.Ytcjflabipkppfaa
set_option linter.unusedVariables false
open Go.RowKit Go.Lib

theorem results_cell_tmp2 {fn : Func} {p u v : Tmp} {ty : TypeId} (h : fn.results = #[.cell p ty, .tmp u, .tmp v]) (tmps : Array Value) (P : Program) (w : World) :
    (results fn tmps).run P w = ((asAddr (tmps.getD p undef)).run P w).andThen fun a w₁ => ((loadVar ty a).run P w₁).andThen fun x w₂ => .ok (.tuple #[x, tmps.getD u undef, tmps.getD v undef]) w₂ := by
  simp only [results, h]
  simp [Sem.run_bind, Result.andThen]
theorem Rm.loadVar {w : World} {g : Nat} {x : Rq} (hg : Rm w g x) (hd : x.dg.length = 32) : (Go.loadVar 42 ⟨g, 0, none⟩).run Try.prog w = .ok x.v w :=
  run_loadVar_mid w g 0 42 _ _ (Mx.range hg) Try.underlying42 rfl (by rw [mixL_length, hd]; exact size38)
theorem Rm.res2 {fn : Func} {p u : Tmp} {w : World} {g : Nat} {x : Rq} (hg : Rm w g x) (hd : x.dg.length = 32) (h : fn.results = #[.cell p 42, .tmp u]) (tmps : Array Value)
    (hp : tmps.getD p undef = .pointer (some ⟨g, 0, none⟩)) : (Go.results fn tmps).run Try.prog w = .ok (.tuple #[x.v, tmps.getD u undef]) w := by
  rw [results_cell_tmp h, hp]
  simp only [asAddr, Sem.run_pure, Result.andThen]
  rw [hg.loadVar hd]
theorem Rm.res3 {fn : Func} {p u v : Tmp} {w : World} {g : Nat} {x : Rq} (hg : Rm w g x) (hd : x.dg.length = 32) (h : fn.results = #[.cell p 42, .tmp u, .tmp v]) (tmps : Array Value)
    (hp : tmps.getD p undef = .pointer (some ⟨g, 0, none⟩)) : (Go.results fn tmps).run Try.prog w = .ok (.tuple #[x.v, tmps.getD u undef, tmps.getD v undef]) w := by
  rw [results_cell_tmp2 h, hp]
  simp only [asAddr, Sem.run_pure, Result.andThen]
  rw [hg.loadVar hd]

/-- blocks g and h of a call from world w: the record that it answers, the record that it makes -/
structure Rd (w W : World) (g h : Nat) (y x : Rq) : Prop where
  ne : g ≠ h
  lo : w.heap.size ≤ g
  lo' : w.heap.size ≤ h
  out : Rm W g y
  own : Rm W h x
  le : Below w.heap.size w W
  dy : y.dg.length = 32
  dx : x.dg.length = 32
section
variable {w W W' : World} {g h : Nat} {x y : Rq}
theorem Rd.later (r : Rd w W g h y x) (hb : Below W.heap.size W W') : Rd w W' g h y x := ⟨r.ne, r.lo, r.lo', r.out.later hb, r.own.later hb, below_step r.le hb, r.dy, r.dx⟩
theorem Rd.gt (r : Rd w W g h y x) : h < W.heap.size := Mx.lt r.own
theorem Rd.cell (r : Rd w W g h y x) (j : Nat) (v : Value) (z : Rq) (hz : Rm (W.setCell ⟨h, j, none⟩ v) h z) (dz : z.dg.length = 32) : Rd w (W.setCell ⟨h, j, none⟩ v) g h y z :=
  ⟨r.ne, r.lo, r.lo', Mx.other r.out _ _ r.ne, hz, r.le.setCell r.lo' _, r.dy, dz⟩
theorem Rd.setN (r : Rd w W g h y x) (N : Int) : Rd w (W.setCell ⟨h, 36, none⟩ (.int .i64 N)) g h y { x with N := N } := r.cell _ _ _ (r.own.setN r.dx N) r.dx
theorem Rd.setZ (r : Rd w W g h y x) (Z : Int) : Rd w (W.setCell ⟨h, 37, none⟩ (.int .i64 Z)) g h y { x with Z := Z } := r.cell _ _ _ (r.own.setZ r.dx Z) r.dx
theorem Rd.setNm (r : Rd w W g h y x) (nm : ByteArray) : Rd w (W.setCell ⟨h, 34, none⟩ (.string nm)) g h y { x with nm := nm } := r.cell _ _ _ (r.own.setNm r.dx nm) r.dx
theorem Rd.setDa (r : Rd w W g h y x) (p : Option Addr) (n c : Nat) (da : List Int) : Rd w (W.setCell ⟨h, 35, none⟩ (.slice p n c)) g h y { x with p := p, n := n, c := c, da := da } := r.cell _ _ _ (r.own.setDa r.dx p n c da) r.dx
theorem Rd.setS (r : Rd w W g h y x) (s : Int) : Rd w (W.setCell ⟨h, 1, none⟩ (.int .u64 s)) g h y { x with s := s } := r.cell _ _ _ (r.own.setS s) r.dx
theorem Rd.setDg (r : Rd w W g h y x) (dg : List Int) (hl : dg.length = 32) : Rd w (W.setCells h 2 (bcs dg).toList) g h y { x with dg := dg } := by
  rw [show (bcs dg).toList = dg.map (Value.int .u8) by simp [bcs]]
  exact ⟨r.ne, r.lo, r.lo', Mx.keep r.out (setCells_other h g r.ne _ _ _), r.own.setDg r.dx dg hl, below_setCells r.lo' _ _ _ r.le, r.dy, hl⟩
/-- the record is made whole -/
theorem Rd.put (r : Rd w W g h y x) (z : Rq) (dz : z.dg.length = 32) : Rd w (W.setRow h (mixC z.a z.dg z.z)) g h y z :=
  ⟨r.ne, r.lo, r.lo', Mx.keep r.out (setRow_other W h g _ r.ne), r.own.row, below_setRow8 r.le h _ r.lo', r.dy, dz⟩
/-- .. and answered -/
theorem Rd.ans (r : Rd w W g h y x) (z : Rq) (dz : z.dg.length = 32) : Rd w (W.setRow g (mixC z.a z.dg z.z)) g h z x :=
  ⟨r.ne, r.lo, r.lo', r.out.row, Mx.keep r.own (setRow_other W g h _ r.ne.symm), below_setRow8 r.le g _ r.lo, dz, r.dx⟩
end
theorem Rq.sizes (x y : Rq) (hx : x.dg.length = 32) (hy : y.dg.length = 32) : (mixC x.a x.dg x.z).size = (mixC y.a y.dg y.z).size := by rw [x.size hx, y.size hy]
/-- a record of a kind, all else zero -/
def rqK (k : Int) : Rq := { rq0 with k := k }
theorem rq0C : mixC rq0.a rq0.dg rq0.z = #[.int .i64 0, .int .u64 0, .int .u8 0, .int .u8 0, .int .u8 0, .int .u8 0, .int .u8 0, .int .u8 0, .int .u8 0, .int .u8 0, .int .u8 0, .int .u8 0, .int .u8 0, .int .u8 0, .int .u8 0, .int .u8 0, .int .u8 0, .int .u8 0, .int .u8 0, .int .u8 0, .int .u8 0, .int .u8 0, .int .u8 0, .int .u8 0, .int .u8 0, .int .u8 0, .int .u8 0, .int .u8 0, .int .u8 0, .int .u8 0, .int .u8 0, .int .u8 0, .int .u8 0, .int .u8 0, .string ⟨#[]⟩, .slice none 0 0, .int .i64 0, .int .i64 0] := rfl
end Go.Proofs.Ytcjflabipkppfaa

namespace Go.Proofs.Ytcjflabipkppfaa
set_option linter.unusedVariables false
open Go.RowKit Go.Lib

/-- a word -/
structure Wq where
  k : Int
  s : Int
  dg : List Int
  nm : ByteArray
  z : Int
  seg : Int
  off : Int
  len : Int
def Wq.a (x : Wq) : List Value := [.int .i64 x.k, .int .u64 x.s]
def Wq.t (x : Wq) : List Value := [.string x.nm, .int .i64 x.z, .int .i64 x.seg, .int .i64 x.off, .int .i64 x.len]
def Wq.v (x : Wq) : Value := .agg (mixC x.a x.dg x.t)
def wq0 : Wq := ⟨0, 0, dg0, ⟨#[]⟩, 0, 0, 0, 0⟩
theorem wq0C : mixC wq0.a wq0.dg wq0.t = #[.int .i64 0, .int .u64 0, .int .u8 0, .int .u8 0, .int .u8 0, .int .u8 0, .int .u8 0, .int .u8 0, .int .u8 0, .int .u8 0, .int .u8 0, .int .u8 0, .int .u8 0, .int .u8 0, .int .u8 0, .int .u8 0, .int .u8 0, .int .u8 0, .int .u8 0, .int .u8 0, .int .u8 0, .int .u8 0, .int .u8 0, .int .u8 0, .int .u8 0, .int .u8 0, .int .u8 0, .int .u8 0, .int .u8 0, .int .u8 0, .int .u8 0, .int .u8 0, .int .u8 0, .int .u8 0, .string ⟨#[]⟩, .int .i64 0, .int .i64 0, .int .i64 0, .int .i64 0] := rfl
/-- block b holds a word -/
def Wm (w : World) (b : Nat) (x : Wq) : Prop := Mx w b 47 x.a x.dg x.t
theorem size39 : (Try.prog.info? 47).map (·.size) = some 39 := by kernel_rfl
theorem Wq.size (x : Wq) (hd : x.dg.length = 32) : (mixC x.a x.dg x.t).size = 39 := by rw [mixC_size, hd]; rfl
theorem Wq.sizeOf (x : Wq) (hd : x.dg.length = 32) : (Try.prog.info? 47).map (·.size) = some (mixC x.a x.dg x.t).size := by rw [x.size hd]; exact size39
theorem Wq.sizes (x y : Wq) (hx : x.dg.length = 32) (hy : y.dg.length = 32) : (mixC x.a x.dg x.t).size = (mixC y.a y.dg y.t).size := by rw [x.size hx, y.size hy]
theorem Wq.one (x : Wq) : (mixC x.a x.dg x.t).all (·.oneCell') = true := mixC_one (by simp [Wq.a, Value.oneCell']) (by simp [Wq.t, Value.oneCell'])
theorem Wm.load {w : World} {b : Nat} {x : Wq} (h : Wm w b x) (hd : x.dg.length = 32) : (Instr.loadAt 47 (.pointer (some ⟨b, 0, none⟩))).run Try.prog w = .ok (.agg (mixC x.a x.dg x.t)) w :=
  Mx.load h _ Try.underlying47 rfl (x.sizeOf hd)
theorem Wm.res1 {fn : Func} {p : Tmp} {w : World} {g : Nat} {x : Wq} (hg : Wm w g x) (hd : x.dg.length = 32) (h : fn.results = #[.cell p 47]) (tmps : Array Value)
    (hp : tmps.getD p undef = .pointer (some ⟨g, 0, none⟩)) : (Go.results fn tmps).run Try.prog w = .ok x.v w :=
  results_cell_row h tmps w g _ _ _ _ hp hg Try.underlying47 rfl (x.sizeOf hd)
theorem Wm.cells {w : World} {b : Nat} {x : Wq} (h : Wm w b x) (hd : x.dg.length = 32) : w.cell? ⟨b, 34, none⟩ = some (.string x.nm) ∧ w.cell? ⟨b, 35, none⟩ = some (.int .i64 x.z) := ⟨Mx.last h hd 0 _ rfl, Mx.last h hd 1 _ rfl⟩
theorem Wm.setNm {w : World} {b : Nat} {x : Wq} (h : Wm w b x) (hd : x.dg.length = 32) (nm : ByteArray) : Wm (w.setCell ⟨b, 34, none⟩ (.string nm)) b { x with nm := nm } := Mx.setLast h hd 0 _
theorem Wm.setZ {w : World} {b : Nat} {x : Wq} (h : Wm w b x) (hd : x.dg.length = 32) (z : Int) : Wm (w.setCell ⟨b, 35, none⟩ (.int .i64 z)) b { x with z := z } := Mx.setLast h hd 1 _
theorem Wm.setDg {w : World} {b : Nat} {x : Wq} (h : Wm w b x) (hd : x.dg.length = 32) (dg : List Int) (hl : dg.length = 32) : Wm (w.setCells b 2 (bcs dg).toList) b { x with dg := dg } := by
  rw [show (bcs dg).toList = dg.map (Value.int .u8) by simp [bcs]]
  exact Mx.setDig h (by rw [hl, hd]) 2 rfl
/-- a place, as a value -/
def locV (seg off len : Int) : Value := .agg #[.int .i64 seg, .int .i64 off, .int .i64 len]
/-- what a record says at a place -/
def wordQ (x : Rq) (seg off len : Int) : Wq :=
  if x.k < 1 ∨ x.k > 8 then ⟨x.k, x.s, dg0, ⟨#[]⟩, 0, seg, off, len⟩
  else ⟨x.k, x.s, if x.k ≤ 3 ∨ x.k = 5 then x.dg else dg0, if x.k = 3 ∨ x.k = 4 then x.nm else ⟨#[]⟩, if x.k ≤ 2 then x.n else if x.k = 6 ∨ x.k = 8 then x.Z else 0, seg, off, len⟩
end Go.Proofs.Ytcjflabipkppfaa

namespace Go.Proofs.Ytcjflabipkppfaa
set_option linter.unusedVariables false
open Go.RowKit Go.Lib

theorem kinds {k : Int} : k < 1 ∨ k > 8 ∨ k = 1 ∨ k = 2 ∨ k = 3 ∨ k = 4 ∨ k = 5 ∨ k = 6 ∨ k = 7 ∨ k = 8 := by omega
/-- what a call that boxes a record finds -/
theorem box_rec (w : World) (x : Rq) (hd : x.dg.length = 32) : ∃ wA, w.alloc (.cells (mixC x.a x.dg x.z) 42) = wA ∧ Rm wA w.heap.size x ∧ Below w.heap.size w wA ∧
    (wA.cell? ⟨w.heap.size, 0, none⟩ = some (.int .i64 x.k) ∧ wA.cell? ⟨w.heap.size, 1, none⟩ = some (.int .u64 x.s) ∧ wA.cell? ⟨w.heap.size, 34, none⟩ = some (.string x.nm) ∧ wA.cell? ⟨w.heap.size, 35, none⟩ = some (.slice x.p x.n x.c) ∧ wA.cell? ⟨w.heap.size, 36, none⟩ = some (.int .i64 x.N) ∧ wA.cell? ⟨w.heap.size, 37, none⟩ = some (.int .i64 x.Z)) :=
  ⟨_, rfl, Rm.new w x, (Below.refl _ _).alloc (Nat.le_refl _) _, (Rm.new w x).cells hd⟩
theorem wrap8 {n : Int} (h0 : 0 ≤ n) (h : n < 256) : IntKind.u8.wrap n = n := by simp [IntKind.wrap, IntKind.bits, IntKind.signed]; omega
/-- a record's frame -/
def makeN (r : Rc) : List Int := if rightN r = 0 then frmN r.k r.s (dataN r) else []
theorem Rd.start (w : World) : Rd w ((w.alloc (.cells (mixC rq0.a rq0.dg rq0.z) 42)).alloc (.cells (mixC rq0.a rq0.dg rq0.z) 42)) w.heap.size (w.heap.size + 1) rq0 rq0 :=
  ⟨by omega, Nat.le_refl _, by omega, heap_alloc2_old _ _ _, heap_alloc2_new _ _ _, ((Below.refl _ _).alloc (Nat.le_refl _) _).alloc (by simp) _, rfl, rfl⟩
theorem i64_zero : (-9223372036854775808 : Int) ≤ 0 ∧ (0 : Int) ≤ 9223372036854775807 := by omega
theorem u64_zero : (0 : Int) ≤ 0 ∧ (0 : Int) < 18446744073709551616 := by omega
theorem rqK_fit {k : Int} (hk : 1 ≤ k ∧ k ≤ 8) (w : World) : (rqK k).Fit w := ⟨Bs.empty _ _, fun _ => rfl, Nat.le_refl _, Nat.zero_le _, dok_zero, (Nat.zero_le 140737488355328 : (0 : Nat) ≤ 140737488355328), u64_zero, by show _ ≤ k ∧ k ≤ _; omega, i64_zero, i64_zero⟩
theorem keep_row {W W' : World} {g : Nat} {cs : Array Value} (h : W.setRow g cs = W') : ∀ k, k ≠ g → W'.heap[k]? = W.heap[k]? := fun k hk => by rw [← h]; exact setRow_other _ _ _ _ hk
theorem keep_cells {W W' : World} {g o : Nat} {cs : List Value} (h : W.setCells g o cs = W') : ∀ k, k ≠ g → W'.heap[k]? = W.heap[k]? := fun k hk => by rw [← h]; exact setCells_other _ _ hk _ _ _
theorem keep_cell {W W' : World} {g o : Nat} {v : Value} (h : W.setCell ⟨g, o, none⟩ v = W') : ∀ k, k ≠ g → W'.heap[k]? = W.heap[k]? := fun k hk => by rw [← h]; exact heap_setCell_other _ ⟨g, o, none⟩ k v hk
theorem Ob.at {w : World} {B : Nat} {e : TypeId} {p : Option Addr} {n c : Nat} {zs : List Int} (h : Ob w B e (.slice p n c) zs) : Bs w p n zs ∧ n ≤ c ∧ c ≤ maxLen ∧ (p = none → c = 0) := by
  obtain ⟨p', c', hv, h1, h2, h3, h4⟩ := h.open
  simp only [Value.slice.injEq] at hv
  obtain ⟨rfl, rfl, rfl⟩ := hv
  exact ⟨h3, h1, h2, h4⟩
theorem read12 {k : Int} (h : k = 1 ∨ k = 2) (zs : List Int) : readN k zs = if zs.length < 32 then none else some ⟨k, 0, zs.take 32, [], zs.drop 32, 0, 0⟩ := by
  unfold readN
  rw [if_pos (by omega)]
/-- why no record stands at a place -/
def rpE (zs : List Int) (a : Int) : Int := if psE zs a ≠ 0 then psE zs a else match readN (psF zs a).k (psF zs a).d with
  | none => 3
  | some r => rightN r
/-- which one does -/
def rpR (zs : List Int) (a : Int) : Rc := if rpE zs a = 0 then (match readN (psF zs a).k (psF zs a).d with
  | none => rc0
  | some r => { r with s := (psF zs a).s }) else rc0
def rpN (zs : List Int) (a : Int) : Int := if rpE zs a = 0 then (psF zs a).e else 0
def RpQ (w : World) (zs : List Int) (a : Int) (e : Ending) (w' : World) : Prop := ∃ x : Rq, e = .returned (.tuple #[x.v, .int .i64 (rpN zs a), .int .i64 (rpE zs a)]) ∧ x.Fit w' ∧ x.rc = rpR zs a ∧ Below w.heap.size w w'
theorem RpQ.of {w w' : World} {zs : List Int} {a n e : Int} (x : Rq) (hn : n = rpN zs a) (he : e = rpE zs a) (hf : x.Fit w') (hx : x.rc = rpR zs a) (hb : Below w.heap.size w w') : RpQ w zs a (.returned (.tuple #[x.v, .int .i64 n, .int .i64 e])) w' := by
  subst hn he
  exact ⟨x, rfl, hf, hx, hb⟩
theorem RpQ.no {w w' : World} {zs : List Int} {a e : Int} (he : e = rpE zs a) (h0 : e ≠ 0) (hb : Below w.heap.size w w') : RpQ w zs a (.returned (.tuple #[rq0.v, .int .i64 0, .int .i64 e])) w' := by
  subst he
  exact RpQ.of rq0 (by unfold rpN; rw [if_neg h0]) rfl (rq0_fit w') (by unfold rpR; rw [if_neg h0]; rfl) hb
theorem rightN_s (r : Rc) (s : Int) : rightN { r with s := s } = rightN r := rfl
theorem Rd.second (w W : World) (x : Rq) (hW : Rm W w.heap.size rq0) (hb : Below w.heap.size w W) (hg : w.heap.size < W.heap.size) : Rd w (W.alloc (.cells (mixC rq0.a rq0.dg rq0.z) 42)) w.heap.size W.heap.size rq0 rq0 :=
  ⟨by omega, Nat.le_refl _, by omega, Mx.later hW ((Below.refl _ _).alloc (Nat.le_refl _) _), heap_alloc_new _ _, hb.alloc hb.size _, rfl, rfl⟩
theorem Rm.res1 {fn : Func} {p : Tmp} {w : World} {g : Nat} {x : Rq} (hg : Rm w g x) (hd : x.dg.length = 32) (h : fn.results = #[.cell p 42]) (tmps : Array Value)
    (hp : tmps.getD p undef = .pointer (some ⟨g, 0, none⟩)) : (Go.results fn tmps).run Try.prog w = .ok x.v w :=
  results_cell_row h tmps w g _ _ _ _ hp hg Try.underlying42 rfl (x.sizeOf hd)
def bareQ (x : Rq) : Rq := ⟨x.k, x.s, if x.k ≤ 3 ∨ x.k = 5 then x.dg else dg0, if x.k = 3 ∨ x.k = 4 then x.nm else ⟨#[]⟩, if x.k ≤ 2 then x.p else none, if x.k ≤ 2 then x.n else 0, if x.k ≤ 2 then x.c else 0, if x.k ≤ 2 then x.da else [], if x.k ≥ 6 then x.N else 0, if x.k = 6 ∨ x.k = 8 then x.Z else 0⟩
def rqKS (k s : Int) : Rq := { rq0 with k := k, s := s }
theorem bare_right {r : Rc} (h : rightN r = 0) : rightN (bareN r) = 0 := by
  have hk := rightN_k h
  obtain ⟨k, s, dg, nm, da, n, z⟩ := r
  dsimp only at hk
  unfold bareN
  dsimp only
  rcases kinds (k := k) with h1 | h1 | rfl | rfl | rfl | rfl | rfl | rfl | rfl | rfl
  · omega
  · omega
  all_goals (unfold rightN at h ⊢; dsimp only at h ⊢; simp at h ⊢; try simpa using h)
theorem bare_bare (r : Rc) : bareN { bareN r with s := r.s } = bareN r := by
  unfold bareN
  simp only [Rc.mk.injEq, true_and]
  refine ⟨?_, ?_, ?_, ?_, ?_⟩ <;> (split <;> simp_all)
/-- a record that was made is read -/
theorem rp_made {r : Rc} (hr : r.Ok) (h : rightN r = 0) (hs : 0 ≤ r.s ∧ r.s < 18446744073709551616) : rpE (makeN r) 0 = 0 ∧ rpR (makeN r) 0 = bareN r ∧ rpN (makeN r) 0 = (makeN r).length := by
  have hk := rightN_k h
  have hl := dataN_len hr h
  have hp := ps_made [] [] (dataN r) r.k r.s 0 (dataN r).length rfl rfl hk.1 hk.2 hl hs.1 hs.2
  rw [List.nil_append, List.append_nil] at hp
  have hm : makeN r = frmN r.k r.s (dataN r) := by unfold makeN; rw [if_pos h]
  have hb := rec_back hr h
  have hE : rpE (makeN r) 0 = 0 := by
    unfold rpE
    rw [hm, show (0 : Int) = ((0 : Nat) : Int) from rfl, hp.1, hp.2]
    simp only [ne_eq, not_true, if_false, hb]
    rw [rightN_s]
    exact bare_right h
  refine ⟨hE, ?_, ?_⟩
  · unfold rpR
    rw [if_pos hE, hm, show (0 : Int) = ((0 : Nat) : Int) from rfl, hp.2]
    simp only [hb]
    rfl
  · unfold rpN
    rw [if_pos hE, hm, show (0 : Int) = ((0 : Nat) : Int) from rfl, hp.2, frmN_length]
    dsimp only
    omega
theorem makeN_length {r : Rc} (hr : r.Ok) : (makeN r).length ≤ 65557 := by
  unfold makeN
  split
  · rename_i h
    have := dataN_len hr h
    rw [frmN_length]; omega
  · simp
theorem bareQ_fit {x : Rq} {w : World} (h : x.Fit w) : (bareQ x).Fit w := by
  have h0 : (0 : Int) ≤ 0 ∧ (0 : Int) ≤ 0 := by omega
  unfold bareQ
  by_cases hk : x.k ≤ 2
  · simp only [if_pos hk]
    exact ⟨h.bs, h.pc, h.nc, h.cm, by dsimp only; split; exact h.dg; exact dok_zero, by dsimp only; split; exact h.nm; exact Nat.zero_le _, h.s, h.k, by dsimp only; split; exact h.N; exact i64_zero, by dsimp only; split; exact h.Z; exact i64_zero⟩
  · simp only [if_neg hk]
    exact ⟨Bs.empty _ _, fun _ => rfl, Nat.le_refl _, Nat.zero_le _, by dsimp only; split; exact h.dg; exact dok_zero, by dsimp only; split; exact h.nm; exact Nat.zero_le _, h.s, h.k, by dsimp only; split; exact h.N; exact i64_zero, by dsimp only; split; exact h.Z; exact i64_zero⟩
theorem bareQ_rc (x : Rq) : (bareQ x).rc = bareN x.rc := by
  unfold bareQ Rq.rc bareN
  simp only [Rc.mk.injEq, true_and, and_true]
  split <;> rfl
end Go.Proofs.Ytcjflabipkppfaa

namespace Go.Proofs.Ytcjflabipkppfaa
set_option linter.unusedVariables false

/-- a record with another number -/
def Rc.num (r : Rc) (s : Int) : Rc := { r with s := s }
/-- what is wrong with the first record that is -/
def firstN : List Rc → Int
  | [] => 0
  | r :: l => if rightN r ≠ 0 then rightN r else firstN l
def kindsN (l : List Rc) : Bool := l.all fun r => decide (1 ≤ r.k ∧ r.k ≤ 5)
def wrongN (l : List Rc) : Int := if l = [] then 2 else if kindsN l = false then 2 else firstN l
/-- the frames, from a number on -/
def framesN : List Rc → Int → List Int
  | [], _ => []
  | r :: l, s => makeN (r.num s) ++ framesN l (s + 1)
def commitN (s n z : Int) : Rc := ⟨6, s, dg0, [], [], n, z⟩
def batN (l : List Rc) (s : Int) : List Int := framesN l s ++ makeN (commitN (s + l.length) l.length (framesN l s).length)
def bmE (l : List Rc) (s : Int) : Int := if wrongN l ≠ 0 then wrongN l else if s + l.length + 1 > 18446744073709551615 then 20 else 0
def bmB (l : List Rc) (s : Int) : List Int := if bmE l s = 0 then batN l s else []
def bmS (l : List Rc) (s : Int) : Int := if bmE l s = 0 then s + l.length + 1 else s
def bzN (l : List Rc) : Int := if wrongN l = 0 then (batN l 0).length else 0

theorem rightN_num (r : Rc) (s : Int) : rightN (r.num s) = rightN r := rfl
theorem firstN_zero {l : List Rc} : firstN l = 0 ↔ ∀ r ∈ l, rightN r = 0 := by
  induction l with
  | nil => simp [firstN]
  | cons r l ih =>
    unfold firstN
    by_cases h : rightN r = 0
    · simp [h, ih]
    · simp [h]
theorem kindsN_true {l : List Rc} : kindsN l = true ↔ ∀ r ∈ l, 1 ≤ r.k ∧ r.k ≤ 5 := by simp [kindsN]
theorem wrongN_zero {l : List Rc} (h : wrongN l = 0) : l ≠ [] ∧ (∀ r ∈ l, 1 ≤ r.k ∧ r.k ≤ 5) ∧ ∀ r ∈ l, rightN r = 0 := by
  unfold wrongN at h
  by_cases h0 : l = []
  · rw [if_pos h0] at h; omega
  rw [if_neg h0] at h
  by_cases h1 : kindsN l = false
  · rw [if_pos h1] at h; omega
  rw [if_neg h1] at h
  exact ⟨h0, kindsN_true.1 (by simpa using h1), firstN_zero.1 h⟩
theorem framesN_append (l m : List Rc) (s : Int) : framesN (l ++ m) s = framesN l s ++ framesN m (s + l.length) := by
  induction l generalizing s with
  | nil => simp [framesN]
  | cons r l ih =>
    simp only [List.cons_append, framesN, ih, List.append_assoc, List.length_cons]
    congr 3
    omega
theorem makeN_len {r : Rc} (h : rightN r = 0) : (makeN r).length = 21 + (dataN r).length := by
  unfold makeN
  rw [if_pos h, frmN_length]
  omega
theorem framesN_length (l : List Rc) (s t : Int) : (framesN l s).length = (framesN l t).length := by
  induction l generalizing s t with
  | nil => rfl
  | cons r l ih =>
    simp only [framesN, List.length_append]
    rw [ih (s + 1) (t + 1)]
    congr 1
    unfold makeN
    rw [rightN_num, rightN_num]
    split
    · rw [frmN_length, frmN_length]; rfl
    · rfl
theorem batN_length (l : List Rc) (s t : Int) : (batN l s).length = (batN l t).length := by
  unfold batN
  rw [List.length_append, List.length_append, framesN_length l s t]
  congr 1
  have h1 : rightN (commitN (s + l.length) l.length (framesN l t).length) = rightN (commitN (t + l.length) l.length (framesN l t).length) := rfl
  unfold makeN
  rw [h1]
  split
  · rw [frmN_length, frmN_length]; rfl
  · rfl
theorem Rc.Ok.num {r : Rc} (h : r.Ok) (s : Int) : (r.num s).Ok := ⟨h.dg, h.dgl, h.nm, h.da⟩
theorem makeN_byt {r : Rc} (hr : r.Ok) : Byt (makeN r) := by
  unfold makeN
  split
  · rename_i h
    exact (dataN_byt hr h).frmN _ _
  · exact Byt.nil
theorem framesN_byt {l : List Rc} (h : ∀ r ∈ l, r.Ok) (s : Int) : Byt (framesN l s) := by
  induction l generalizing s with
  | nil => exact Byt.nil
  | cons r l ih =>
    unfold framesN
    exact (makeN_byt ((h r (by simp)).num s)).app (ih (fun x hx => h x (by simp [hx])) _)
theorem commitN_ok (s n z : Int) : (commitN s n z).Ok := ⟨dg0_byt, by simp [commitN, dg0], Byt.nil, Byt.nil⟩
theorem batN_byt {l : List Rc} (h : ∀ r ∈ l, r.Ok) (s : Int) : Byt (batN l s) := (framesN_byt h s).app (makeN_byt (commitN_ok _ _ _))

/-- a record that was made is read wherever it stands -/
theorem rp_made_at {r : Rc} (hr : r.Ok) (h : rightN r = 0) (hs : 0 ≤ r.s ∧ r.s < 18446744073709551616) (az es : List Int) :
    rpE (az ++ makeN r ++ es) (az.length : Int) = 0 ∧ rpR (az ++ makeN r ++ es) (az.length : Int) = bareN r ∧ rpN (az ++ makeN r ++ es) (az.length : Int) = (az.length : Int) + (makeN r).length := by
  have hk := rightN_k h
  have hl := dataN_len hr h
  have hp := ps_made az es (dataN r) r.k r.s az.length (dataN r).length rfl rfl hk.1 hk.2 hl hs.1 hs.2
  have hm : makeN r = frmN r.k r.s (dataN r) := by unfold makeN; rw [if_pos h]
  have hb := rec_back hr h
  have hE : rpE (az ++ makeN r ++ es) (az.length : Int) = 0 := by
    unfold rpE
    rw [hm, hp.1, hp.2]
    simp only [ne_eq, not_true, if_false, hb]
    rw [rightN_s]
    exact bare_right h
  refine ⟨hE, ?_, ?_⟩
  · unfold rpR
    rw [if_pos hE, hm, hp.2]
    simp only [hb]
    rfl
  · unfold rpN
    rw [if_pos hE, hm, hp.2, frmN_length]
    dsimp only
    omega
/-- a record that was cut is not -/
theorem rp_cut {r : Rc} (hr : r.Ok) (h : rightN r = 0) (az : List Int) (hz : Byt az) (j : Nat) (hj : j < (makeN r).length) : rpE (az ++ (makeN r).take j) (az.length : Int) ≠ 0 := by
  intro hE
  have hk := rightN_k h
  have hm : makeN r = frmN r.k r.s (dataN r) := by unfold makeN; rw [if_pos h]
  have hl := dataN_len hr h
  have hps : psE (az ++ (makeN r).take j) (az.length : Int) = 0 := by
    unfold rpE at hE
    by_cases h0 : psE (az ++ (makeN r).take j) (az.length : Int) = 0
    · exact h0
    · rw [if_pos h0] at hE
      exact hE
  obtain ⟨m, n, hmz, hle, hn6, hdn, hk', hs', hdb, _, hfr⟩ := ps_of (hz.app ((makeN_byt hr).take j)) hps
  obtain rfl : az.length = m := by omega
  have hll : ((makeN r).take j).length = j := by rw [List.length_take]; omega
  rw [List.length_append, hll] at hle
  rw [List.drop_left, List.take_take, Nat.min_eq_left (by omega)] at hfr
  have h1 : leN (frmN (psF (az ++ (makeN r).take j) (az.length : Int)).k (psF (az ++ (makeN r).take j) (az.length : Int)).s (psF (az ++ (makeN r).take j) (az.length : Int)).d) 9 4 = leN ((makeN r).take (n + 21)) 9 4 := by rw [hfr]
  rw [leN_take _ _ _ _ (by omega)] at h1
  generalize psF (az ++ (makeN r).take j) (az.length : Int) = FF at *
  have h2 : leN (frmN FF.k FF.s FF.d) 9 4 = n := by
    rw [← List.append_nil (frmN FF.k FF.s FF.d), frmN_split, frmS_size _ _ _ _ (by omega) (by omega), hdn]
  have h3 : leN (makeN r) 9 4 = (dataN r).length := by
    rw [hm, ← List.append_nil (frmN r.k r.s (dataN r)), frmN_split, frmS_size _ _ _ _ (by omega) (by omega)]
  rw [h2, h3] at h1
  rw [hm, frmN_length] at hj
  omega

/-- a word, plainly -/
structure Wd where
  k : Int
  s : Int
  dg : List Int
  nm : List Int
  z : Int
  seg : Int
  off : Int
  len : Int
def wordN (r : Rc) (seg off len : Int) : Wd :=
  if r.k < 1 ∨ r.k > 8 then ⟨r.k, r.s, dg0, [], 0, seg, off, len⟩
  else ⟨r.k, r.s, if r.k ≤ 3 ∨ r.k = 5 then r.dg else dg0, if r.k = 3 ∨ r.k = 4 then r.nm else [], if r.k ≤ 2 then r.da.length else if r.k = 6 ∨ r.k = 8 then r.z else 0, seg, off, len⟩
/-- what the reading of a batch answers -/
structure Bp where
  ws : List Wd
  e : Int
  s : Int
  err : Int
def bpNo (err : Int) : Bp := ⟨[], 0, 0, err⟩
def lastS : List Wd → Int
  | [] => 0
  | [w] => w.s
  | _ :: l => lastS l
theorem lastS_append (l : List Wd) (w : Wd) : lastS (l ++ [w]) = w.s := by
  induction l with
  | nil => rfl
  | cons x l ih =>
    cases l with
    | nil => rfl
    | cons y l => simpa [lastS] using ih
def bpGo : Nat → List Int → Int → Int → Int → List Wd → Bp
  | 0, _, _, _, _, _ => bpNo 3
  | f + 1, zs, seg, from_, at_, out =>
    if rpE zs at_ ≠ 0 then bpNo (rpE zs at_)
    else if out ≠ [] ∧ ((rpR zs at_).s < 1 ∨ (rpR zs at_).s - 1 ≠ lastS out) then bpNo 3
    else if (rpR zs at_).k = 6 ∧ out ≠ [] ∧ (rpR zs at_).n = out.length ∧ (rpR zs at_).z = at_ - from_ then ⟨out, rpN zs at_, (rpR zs at_).s, 0⟩
    else if (rpR zs at_).k > 5 then bpNo 3
    else bpGo f zs seg from_ (rpN zs at_) (out ++ [wordN (rpR zs at_) seg at_ (rpN zs at_ - at_)])
def bpF (zs : List Int) (at_ seg : Int) : Bp := bpGo (zs.length + 1) zs seg at_ at_ []
theorem bpGo_err {f : Nat} {zs : List Int} {seg from_ at_ : Int} {out : List Wd} (h : (bpGo f zs seg from_ at_ out).err ≠ 0) :
    (bpGo f zs seg from_ at_ out).ws = [] ∧ (bpGo f zs seg from_ at_ out).e = 0 ∧ (bpGo f zs seg from_ at_ out).s = 0 := by
  induction f generalizing at_ out with
  | zero => exact ⟨rfl, rfl, rfl⟩
  | succ f ih =>
    unfold bpGo at h ⊢
    split
    · exact ⟨rfl, rfl, rfl⟩
    rename_i h1
    rw [if_neg h1] at h
    split
    · exact ⟨rfl, rfl, rfl⟩
    rename_i h2
    rw [if_neg h2] at h
    split
    · rename_i h3
      rw [if_pos h3] at h
      exact absurd rfl h
    rename_i h3
    rw [if_neg h3] at h
    split
    · exact ⟨rfl, rfl, rfl⟩
    rename_i h4
    rw [if_neg h4] at h
    exact ih h
/-- the words of a batch's records -/
def wordsN : List Rc → Int → Int → Int → List Wd
  | [], _, _, _ => []
  | r :: l, s, seg, at_ => wordN (bareN (r.num s)) seg at_ (makeN (r.num s)).length :: wordsN l (s + 1) seg (at_ + (makeN (r.num s)).length)
theorem wordsN_length (l : List Rc) (s seg at_ : Int) : (wordsN l s seg at_).length = l.length := by
  induction l generalizing s at_ with
  | nil => rfl
  | cons r l ih => simp [wordsN, ih]
theorem bareN_num_s (r : Rc) (s : Int) : (bareN (r.num s)).s = s := rfl
theorem bareN_k (r : Rc) : (bareN r).k = r.k := rfl
theorem wordN_s (r : Rc) (seg off len : Int) : (wordN r seg off len).s = r.s := by
  unfold wordN
  split <;> rfl
theorem commit_right {s n z : Int} (hn : 0 ≤ n ∧ n < 4294967296) (hz : 0 ≤ z ∧ z < 4294967296) : rightN (commitN s n z) = 0 := by
  unfold rightN commitN
  simp
  omega
theorem bare_commit (s n z : Int) : bareN (commitN s n z) = commitN s n z := by
  unfold bareN commitN
  simp

/-- the frames of what is left, then the commit: they are read -/
theorem bpGo_back (seg from_ : Int) (es : List Int) : ∀ (l : List Rc) (s : Int) (az : List Int) (out : List Wd) (f : Nat) (c : Rc), (∀ r ∈ l, r.Ok ∧ (1 ≤ r.k ∧ r.k ≤ 5) ∧ rightN r = 0) → 0 ≤ s → s + l.length ≤ 18446744073709551615 → (out ≠ [] → 1 ≤ s ∧ lastS out = s - 1) → l.length < f → (l = [] → out ≠ []) →
    c = commitN (s + l.length) (out.length + l.length) ((az.length : Int) + (framesN l s).length - from_) → rightN c = 0 →
    bpGo f (az ++ (framesN l s ++ makeN c) ++ es) seg from_ (az.length : Int) out = ⟨out ++ wordsN l s seg az.length, (az.length : Int) + (framesN l s).length + (makeN c).length, s + l.length, 0⟩
  | [], s, az, out, f, c, hl, h0, h1, ho, hf, hne, hc, hr => by
    obtain ⟨f, rfl⟩ : ∃ g, f = g + 1 := ⟨f - 1, by simp at hf; omega⟩
    have hok := commitN_ok (s + (0 : Int)) (out.length + (0 : Int)) ((az.length : Int) + (0 : Int) - from_)
    simp only [framesN, List.length_nil, Int.natCast_zero, Int.add_zero, List.nil_append, wordsN, List.append_nil] at *
    subst hc
    obtain ⟨hE, hR, hN⟩ := rp_made_at hok hr ⟨h0, by show s < _; omega⟩ az es
    have hon := hne trivial
    unfold bpGo
    rw [if_neg (by rw [hE]; simp), hR, hN, bare_commit]
    have e1 : (commitN s out.length ((az.length : Int) - from_)).s = s := rfl
    have e2 : (commitN s out.length ((az.length : Int) - from_)).k = 6 := rfl
    have e3 : (commitN s out.length ((az.length : Int) - from_)).n = out.length := rfl
    have e4 : (commitN s out.length ((az.length : Int) - from_)).z = (az.length : Int) - from_ := rfl
    rw [e1, e2, e3, e4, if_neg (by rw [(ho hon).2]; have := (ho hon).1; omega), if_pos ⟨rfl, hon, rfl, rfl⟩]
  | r :: l, s, az, out, f, c, hl, h0, h1, ho, hf, hne, hc, hr => by
    obtain ⟨f, rfl⟩ : ∃ g, f = g + 1 := ⟨f - 1, by simp at hf; omega⟩
    obtain ⟨hok, hk, hri⟩ := hl r (by simp)
    have hln : ((r :: l).length : Int) = (l.length : Int) + 1 := by simp
    rw [hln] at h1
    obtain ⟨hE, hR, hN⟩ := rp_made_at (hok.num s) (show rightN (r.num s) = 0 from hri) ⟨h0, by show s < _; omega⟩ az ((framesN l (s + 1) ++ makeN c) ++ es)
    have hz : az ++ (framesN (r :: l) s ++ makeN c) ++ es = az ++ makeN (r.num s) ++ (framesN l (s + 1) ++ makeN c ++ es) := by
      simp [framesN, List.append_assoc]
    rw [hz]
    unfold bpGo
    rw [if_neg (by rw [hE]; simp), hR, hN, bareN_num_s, bareN_k]
    rw [if_neg (by
      rintro ⟨hon, hh⟩
      have := ho hon
      omega), if_neg (by show ¬ (r.k = 6 ∧ _); omega), if_neg (by show ¬ (r.k > 5); omega)]
    have ha : (az.length : Int) + (makeN (r.num s)).length = ((az ++ makeN (r.num s)).length : Nat) := by simp
    have hd : (az.length : Int) + (makeN (r.num s)).length - az.length = (makeN (r.num s)).length := by omega
    rw [hd]
    have hzz : az ++ makeN (r.num s) ++ (framesN l (s + 1) ++ makeN c ++ es) = (az ++ makeN (r.num s)) ++ (framesN l (s + 1) ++ makeN c) ++ es := by simp [List.append_assoc]
    rw [hzz, ha]
    have hfl : ((framesN (r :: l) s).length : Int) = (makeN (r.num s)).length + (framesN l (s + 1)).length := by simp [framesN]
    have IH := bpGo_back seg from_ es l (s + 1) (az ++ makeN (r.num s)) (out ++ [wordN (bareN (r.num s)) seg az.length (makeN (r.num s)).length]) f c
      (fun x hx => hl x (by simp [hx])) (by omega) (by omega) (fun _ => ⟨by omega, by rw [lastS_append, wordN_s, bareN_num_s]; omega⟩) (by simp at hf; omega) (fun _ => by simp)
      (by
        rw [hc, hln, hfl]
        congr 1
        · omega
        · simp; omega
        · simp; omega) hr
    rw [IH]
    congr 1
    · simp [wordsN]
    · rw [hfl]; simp; omega
    · rw [hln]; omega

theorem bat_back {l : List Rc} {s : Int} (hok : ∀ r ∈ l, r.Ok) (hw : wrongN l = 0) (h0 : 0 ≤ s) (h1 : s + l.length + 1 ≤ 18446744073709551615) (hz : (framesN l s).length < 4294967296) (hn : l.length < 4294967296) (az es : List Int) (seg : Int) :
    bpF (az ++ batN l s ++ es) (az.length : Int) seg = ⟨wordsN l s seg az.length, (az.length : Int) + (batN l s).length, s + l.length, 0⟩ := by
  obtain ⟨hne, hk, hr⟩ := wrongN_zero hw
  have hcr : rightN (commitN (s + l.length) l.length (framesN l s).length) = 0 := commit_right (by omega) (by omega)
  unfold bpF
  have hfr : ∀ (m : List Rc) (t : Int), (∀ r ∈ m, rightN r = 0) → m.length ≤ (framesN m t).length := by
    intro m
    induction m with
    | nil => intro t _; simp
    | cons x m ih =>
      intro t hm
      have h2 := ih (t + 1) fun y hy => hm y (by simp [hy])
      have h3 := makeN_len (r := x.num t) (hm x (by simp))
      simp only [framesN, List.length_append, List.length_cons]
      omega
  have h4 := hfr l s hr
  have := bpGo_back seg (az.length : Int) es l s az [] ((az ++ batN l s ++ es).length + 1) (commitN (s + l.length) l.length (framesN l s).length)
    (fun r hx => ⟨hok r hx, hk r hx, hr r hx⟩) h0 (by omega) (fun h => absurd rfl h) (by unfold batN; simp only [List.length_append]; omega) (fun h => absurd h hne) (by simp only [List.length_nil]; congr 1 <;> omega) hcr
  unfold batN at this ⊢
  rw [this, List.nil_append, List.length_append]
  congr 1
  push_cast
  omega

/-- what was cut is no batch -/
theorem bpGo_torn (seg from_ : Int) : ∀ (l : List Rc) (s : Int) (az : List Int) (out : List Wd) (f m : Nat) (c : Rc), Byt az → (∀ r ∈ l, r.Ok ∧ (1 ≤ r.k ∧ r.k ≤ 5) ∧ rightN r = 0) → 0 ≤ s → s + l.length ≤ 18446744073709551615 → c.Ok → rightN c = 0 → m < (framesN l s ++ makeN c).length →
    (bpGo f (az ++ (framesN l s ++ makeN c).take m) seg from_ (az.length : Int) out).err ≠ 0
  | [], s, az, out, f, m, c, hb, hl, h0, h1, hco, hcr, hm => by
    cases f with
    | zero => simp [bpGo, bpNo]
    | succ f =>
      rw [show framesN [] s ++ makeN c = makeN c from rfl] at hm ⊢
      have hE := rp_cut hco hcr az hb m hm
      unfold bpGo
      rw [if_pos hE]
      exact hE
  | r :: l, s, az, out, f, m, c, hb, hl, h0, h1, hco, hcr, hm => by
    cases f with
    | zero => simp [bpGo, bpNo]
    | succ f =>
      obtain ⟨hok, hk, hri⟩ := hl r (by simp)
      have hln : ((r :: l).length : Int) = (l.length : Int) + 1 := by simp
      rw [hln] at h1
      have hz : framesN (r :: l) s ++ makeN c = makeN (r.num s) ++ (framesN l (s + 1) ++ makeN c) := by simp [framesN, List.append_assoc]
      rw [hz] at hm ⊢
      by_cases hlt : m < (makeN (r.num s)).length
      · have hE := rp_cut (hok.num s) (show rightN (r.num s) = 0 from hri) az hb m hlt
        rw [List.take_append_of_le_length (Nat.le_of_lt hlt)]
        unfold bpGo
        rw [if_pos hE]
        exact hE
      · have ht : (makeN (r.num s) ++ (framesN l (s + 1) ++ makeN c)).take m = makeN (r.num s) ++ (framesN l (s + 1) ++ makeN c).take (m - (makeN (r.num s)).length) := by
          rw [List.take_append, List.take_of_length_le (by omega)]
        rw [ht, ← List.append_assoc]
        obtain ⟨hE, hR, hN⟩ := rp_made_at (hok.num s) (show rightN (r.num s) = 0 from hri) ⟨h0, by show s < _; omega⟩ az ((framesN l (s + 1) ++ makeN c).take (m - (makeN (r.num s)).length))
        unfold bpGo
        rw [if_neg (by rw [hE]; simp), hR, hN, bareN_num_s, bareN_k]
        split
        · simp [bpNo]
        · rw [if_neg (by show ¬ (r.k = 6 ∧ _); omega), if_neg (by show ¬ (r.k > 5); omega)]
          have ha : (az.length : Int) + (makeN (r.num s)).length = ((az ++ makeN (r.num s)).length : Nat) := by simp
          rw [ha]
          exact bpGo_torn seg from_ l (s + 1) (az ++ makeN (r.num s)) _ f _ c (hb.app (makeN_byt (hok.num s))) (fun x hx => hl x (by simp [hx])) (by omega) (by omega) hco hcr (by rw [List.length_append] at hm; omega)
theorem bat_torn {l : List Rc} {s : Int} (hok : ∀ r ∈ l, r.Ok) (hw : wrongN l = 0) (h0 : 0 ≤ s) (h1 : s + l.length + 1 ≤ 18446744073709551615) (hz : (framesN l s).length < 4294967296) (hn : l.length < 4294967296) (seg : Int) (m : Nat) (hm : m < (batN l s).length) :
    (bpF ((batN l s).take m) 0 seg).err ≠ 0 := by
  obtain ⟨hne, hk, hr⟩ := wrongN_zero hw
  have hcr : rightN (commitN (s + l.length) l.length (framesN l s).length) = 0 := commit_right (by omega) (by omega)
  have := bpGo_torn seg 0 l s [] [] (((batN l s).take m).length + 1) m (commitN (s + l.length) l.length (framesN l s).length) Byt.nil (fun r hx => ⟨hok r hx, hk r hx, hr r hx⟩) h0 (by omega) (commitN_ok _ _ _) hcr hm
  exact this
end Go.Proofs.Ytcjflabipkppfaa

namespace Go.Proofs.Ytcjflabipkppfaa
set_option linter.unusedVariables false
open Go.RowKit Go.Lib

set_option maxRecDepth 100000 in
set_option maxHeartbeats 4000000 in
theorem rbareQ_any (x : Rq) (w : World) (hx : x.Fit w) (hk : 1 ≤ x.k ∧ x.k ≤ 8) :
    Calls Try.prog 13 #[x.v] w fun e w' => ∃ y : Rq, e = .returned y.v ∧ y.Fit w' ∧ y.rc = bareN x.rc ∧ Below w.heap.size w w' ∧ y = bareQ x := by
  obtain ⟨wA, hA, hm, hb, c0, c1, c34, c35, c36, c37⟩ := box_rec w x hx.dg.1
  have hsA : wA.heap.size = w.heap.size + 1 := by rw [← hA]; simp
  have HX := Lib.hid hx
  have HBX := Lib.hid fun W (hW : W.heap[w.heap.size]? = wA.heap[w.heap.size]?) => show Rm W w.heap.size x from Mx.keep hm hW
  have HB := Lib.hid hb
  have HSA := Lib.hid hsA
  have HNW : Hid (∀ Z : Obj, ((wA.alloc Z).alloc Z).heap[w.heap.size + 1 + 1]? = some Z) := Lib.hid fun Z => by rw [← hsA]; exact heap_alloc2_new _ _ _
  have HFT := Lib.hid fun W (hW : Below w.heap.size w W) => hx.later hW
  have HBN := Lib.hid (show bareN x.rc = _ from rfl)
  unfold bareN Rq.rc at HBN
  dsimp only at HBN
  generalize hBN : bareN x.rc = R at *
  replace HBN : Hid (R = ⟨x.k, x.s, if x.k ≤ 3 ∨ x.k = 5 then x.dg else dg0, if x.k = 3 ∨ x.k = 4 then numsOf x.nm else [], if x.k ≤ 2 then x.da else [], if x.k ≥ 6 then x.N else 0, if x.k = 6 ∨ x.k = 8 then x.Z else 0⟩) := Lib.hid (by rw [← hBN]; rfl)
  have HD := Lib.hid hx.dg
  have hs := hx.s
  have hN := hx.N
  have hZ := hx.Z
  unfold Rq.v
  obtain ⟨k, s, dg, nm, p, n, c, da, N, Z⟩ := x
  dsimp only at *
  generalize hM : mixC _ _ _ = M at *
  clear hM hx hm hb c34 c35 c36 c37 hBN
  go_enter Try.func13, Try.ntmps13
  go_upto_region 3 with (first
    | (refine wpList_build_is rfl 42 _ rfl (mixC (rqKS k s).a (rqKS k s).dg (rqKS k s).z) ?_ ?_; kernel_rfl)
    | (refine wpList_store_row rfl 42 _ _ rfl (w.heap.size + 1 + 1) _ rfl rfl 42 _ (HNW.out _) ((rqKS k s).sizeOf rfl) (Rq.sizes rq0 (rqKS k s) rfl rfl) (rqKS k s).one ?_; generalize hwS : World.setRow _ _ _ = wS))
  have HR0 : Hid (Rd w wS (w.heap.size + 1) (w.heap.size + 1 + 1) rq0 (rqKS k s)) := Lib.hid (by
    rw [← hwS]
    have h1 : Rd wA ((wA.alloc (.cells (mixC rq0.a rq0.dg rq0.z) 42)).alloc (.cells (mixC rq0.a rq0.dg rq0.z) 42)) wA.heap.size (wA.heap.size + 1) rq0 rq0 := Rd.start wA
    rw [HSA.out] at h1
    exact Rd.put ⟨h1.ne, by omega, by omega, h1.out, h1.own, below_step HB.out h1.le, h1.dy, h1.dx⟩ (rqKS k s) rfl)
  have HK0 : Hid (wS.heap[w.heap.size]? = wA.heap[w.heap.size]?) := Lib.hid (by rw [keep_row hwS _ (by omega), heap_alloc_old _ _ (by simp; rw [HSA.out]; omega), heap_alloc_old _ _ (by rw [HSA.out]; omega)])
  clear hwS c0 c1
  rcases kinds (k := k) with h | h | rfl | rfl | rfl | rfl | rfl | rfl | rfl | rfl
  · omega
  · omega
  · have HC0 := Lib.hid ((HBX.out wS HK0.out).cells HX.out.dg.1)
    have HLD := Lib.hid (Mx.loadDig (P := Try.prog) (HBX.out wS HK0.out) 40 Try.underlying40 rfl (by rw [HX.out.dg.1]; exact size32) 2 rfl)
    have HTH : Hid (wS.there (w.heap.size + 1 + 1) 2 (bcs dg).size) := Lib.hid (by rw [bcs_size, HD.out.1]; exact Mx.there HR0.out.own 2 32 (by rw [HR0.out.dx]; simp [Rq.a, Rq.z]))
    obtain ⟨w1, hw1⟩ : ∃ W, wS.setCells (w.heap.size + 1 + 1) 2 (bcs dg).toList = W := ⟨_, rfl⟩
    have HK1 : Hid (w1.heap[w.heap.size]? = wA.heap[w.heap.size]?) := Lib.hid ((keep_cells hw1 _ (by omega)).trans HK0.out)
    have HW1 := Lib.hid hw1
    obtain ⟨X1, hX1⟩ : ∃ X, { (rqKS 1 s) with dg := dg } = X := ⟨_, rfl⟩
    have HR1 : Hid (Rd w w1 (w.heap.size + 1) (w.heap.size + 1 + 1) rq0 X1) := Lib.hid (by rw [← hw1, ← hX1]; exact HR0.out.setDg dg HD.out.1)
    have HX1 := Lib.hid hX1
    clear hw1
    clear hX1
    have g2 := ((HBX.out w1 HK1.out).cells HX.out.dg.1).2.2.2.1
    have cl2 := (HR1.out.own.cells HR1.out.dx).2.2.2.1
    have fr2 := HR1.out.own.frozen 35
    obtain ⟨w2, hw2⟩ : ∃ W, w1.setCell ⟨w.heap.size + 1 + 1, 35, none⟩ (.slice p n c) = W := ⟨_, rfl⟩
    have HK2 : Hid (w2.heap[w.heap.size]? = wA.heap[w.heap.size]?) := Lib.hid ((keep_cell hw2 _ (by omega)).trans HK1.out)
    obtain ⟨X2, hX2⟩ : ∃ X, { X1 with p := p, n := n, c := c, da := da } = X := ⟨_, rfl⟩
    have HR2 : Hid (Rd w w2 (w.heap.size + 1) (w.heap.size + 1 + 1) rq0 X2) := Lib.hid (by rw [← hw2, ← hX2]; exact HR1.out.setDa p n c da)
    have HX2 := Lib.hid hX2
    clear hX2
    clear HC0
    go_wp2_with (first
        | (refine wpList_ld rfl _ _ rfl _ rfl _ HLD.out ?_)
        | (refine wpList_store_mid rfl 40 _ _ rfl (w.heap.size + 1 + 1) 2 _ rfl rfl HTH.out (by rw [bcs_size, HD.out.1]; exact size32) (bcs_one _) ?_; rw [HW1.out])
        | (refine wpList_ld rfl _ _ rfl _ rfl _ (HR2.out.own.load HR2.out.dx) ?_)
        | (refine wpList_store_row rfl 42 _ _ rfl (w.heap.size + 1) _ rfl rfl 42 _ HR2.out.out (Rq.sizeOf X2 HR2.out.dx) (Rq.sizes rq0 X2 rfl HR2.out.dx) (Rq.one X2) ?_; generalize hwZ : World.setRow _ _ _ = wZ; have HZ : Hid (Rd w wZ (w.heap.size + 1) (w.heap.size + 1 + 1) X2 X2) := Lib.hid (by rw [← hwZ]; exact HR2.out.ans X2 HR2.out.dx); clear hwZ))
    refine bodyPost_ret (HZ.out.out.res1 HZ.out.dy rfl _ rfl) rfl ?_
    exact ⟨X2, rfl, by rw [← HX2.out, ← HX1.out]; exact ⟨(HFT.out _ HZ.out.le).bs, HX.out.pc, HX.out.nc, HX.out.cm, HD.out, (Nat.zero_le 140737488355328 : (0 : Nat) ≤ 140737488355328), hs, by show _ ≤ (1 : Int) ∧ (1 : Int) ≤ _; omega, i64_zero, i64_zero⟩, by rw [HBN.out, ← HX2.out, ← HX1.out]; unfold Rq.rc; simp [rqKS, rq0, dg0]; try rfl, HZ.out.le, by rw [← HX2.out, ← HX1.out]; simp [bareQ, rqKS, rq0]⟩
  · have HC0 := Lib.hid ((HBX.out wS HK0.out).cells HX.out.dg.1)
    have HLD := Lib.hid (Mx.loadDig (P := Try.prog) (HBX.out wS HK0.out) 40 Try.underlying40 rfl (by rw [HX.out.dg.1]; exact size32) 2 rfl)
    have HTH : Hid (wS.there (w.heap.size + 1 + 1) 2 (bcs dg).size) := Lib.hid (by rw [bcs_size, HD.out.1]; exact Mx.there HR0.out.own 2 32 (by rw [HR0.out.dx]; simp [Rq.a, Rq.z]))
    obtain ⟨w1, hw1⟩ : ∃ W, wS.setCells (w.heap.size + 1 + 1) 2 (bcs dg).toList = W := ⟨_, rfl⟩
    have HK1 : Hid (w1.heap[w.heap.size]? = wA.heap[w.heap.size]?) := Lib.hid ((keep_cells hw1 _ (by omega)).trans HK0.out)
    have HW1 := Lib.hid hw1
    obtain ⟨X1, hX1⟩ : ∃ X, { (rqKS 2 s) with dg := dg } = X := ⟨_, rfl⟩
    have HR1 : Hid (Rd w w1 (w.heap.size + 1) (w.heap.size + 1 + 1) rq0 X1) := Lib.hid (by rw [← hw1, ← hX1]; exact HR0.out.setDg dg HD.out.1)
    have HX1 := Lib.hid hX1
    clear hw1
    clear hX1
    have g2 := ((HBX.out w1 HK1.out).cells HX.out.dg.1).2.2.2.1
    have cl2 := (HR1.out.own.cells HR1.out.dx).2.2.2.1
    have fr2 := HR1.out.own.frozen 35
    obtain ⟨w2, hw2⟩ : ∃ W, w1.setCell ⟨w.heap.size + 1 + 1, 35, none⟩ (.slice p n c) = W := ⟨_, rfl⟩
    have HK2 : Hid (w2.heap[w.heap.size]? = wA.heap[w.heap.size]?) := Lib.hid ((keep_cell hw2 _ (by omega)).trans HK1.out)
    obtain ⟨X2, hX2⟩ : ∃ X, { X1 with p := p, n := n, c := c, da := da } = X := ⟨_, rfl⟩
    have HR2 : Hid (Rd w w2 (w.heap.size + 1) (w.heap.size + 1 + 1) rq0 X2) := Lib.hid (by rw [← hw2, ← hX2]; exact HR1.out.setDa p n c da)
    have HX2 := Lib.hid hX2
    clear hX2
    clear HC0
    go_wp2_with (first
        | (refine wpList_ld rfl _ _ rfl _ rfl _ HLD.out ?_)
        | (refine wpList_store_mid rfl 40 _ _ rfl (w.heap.size + 1 + 1) 2 _ rfl rfl HTH.out (by rw [bcs_size, HD.out.1]; exact size32) (bcs_one _) ?_; rw [HW1.out])
        | (refine wpList_ld rfl _ _ rfl _ rfl _ (HR2.out.own.load HR2.out.dx) ?_)
        | (refine wpList_store_row rfl 42 _ _ rfl (w.heap.size + 1) _ rfl rfl 42 _ HR2.out.out (Rq.sizeOf X2 HR2.out.dx) (Rq.sizes rq0 X2 rfl HR2.out.dx) (Rq.one X2) ?_; generalize hwZ : World.setRow _ _ _ = wZ; have HZ : Hid (Rd w wZ (w.heap.size + 1) (w.heap.size + 1 + 1) X2 X2) := Lib.hid (by rw [← hwZ]; exact HR2.out.ans X2 HR2.out.dx); clear hwZ))
    refine bodyPost_ret (HZ.out.out.res1 HZ.out.dy rfl _ rfl) rfl ?_
    exact ⟨X2, rfl, by rw [← HX2.out, ← HX1.out]; exact ⟨(HFT.out _ HZ.out.le).bs, HX.out.pc, HX.out.nc, HX.out.cm, HD.out, (Nat.zero_le 140737488355328 : (0 : Nat) ≤ 140737488355328), hs, by show _ ≤ (2 : Int) ∧ (2 : Int) ≤ _; omega, i64_zero, i64_zero⟩, by rw [HBN.out, ← HX2.out, ← HX1.out]; unfold Rq.rc; simp [rqKS, rq0, dg0]; try rfl, HZ.out.le, by rw [← HX2.out, ← HX1.out]; simp [bareQ, rqKS, rq0]⟩
  · have HC0 := Lib.hid ((HBX.out wS HK0.out).cells HX.out.dg.1)
    have HLD := Lib.hid (Mx.loadDig (P := Try.prog) (HBX.out wS HK0.out) 40 Try.underlying40 rfl (by rw [HX.out.dg.1]; exact size32) 2 rfl)
    have HTH : Hid (wS.there (w.heap.size + 1 + 1) 2 (bcs dg).size) := Lib.hid (by rw [bcs_size, HD.out.1]; exact Mx.there HR0.out.own 2 32 (by rw [HR0.out.dx]; simp [Rq.a, Rq.z]))
    obtain ⟨w1, hw1⟩ : ∃ W, wS.setCells (w.heap.size + 1 + 1) 2 (bcs dg).toList = W := ⟨_, rfl⟩
    have HK1 : Hid (w1.heap[w.heap.size]? = wA.heap[w.heap.size]?) := Lib.hid ((keep_cells hw1 _ (by omega)).trans HK0.out)
    have HW1 := Lib.hid hw1
    obtain ⟨X1, hX1⟩ : ∃ X, { (rqKS 3 s) with dg := dg } = X := ⟨_, rfl⟩
    have HR1 : Hid (Rd w w1 (w.heap.size + 1) (w.heap.size + 1 + 1) rq0 X1) := Lib.hid (by rw [← hw1, ← hX1]; exact HR0.out.setDg dg HD.out.1)
    have HX1 := Lib.hid hX1
    clear hw1
    clear hX1
    have g2 := ((HBX.out w1 HK1.out).cells HX.out.dg.1).2.2.1
    have cl2 := (HR1.out.own.cells HR1.out.dx).2.2.1
    have fr2 := HR1.out.own.frozen 34
    obtain ⟨w2, hw2⟩ : ∃ W, w1.setCell ⟨w.heap.size + 1 + 1, 34, none⟩ (.string nm) = W := ⟨_, rfl⟩
    have HK2 : Hid (w2.heap[w.heap.size]? = wA.heap[w.heap.size]?) := Lib.hid ((keep_cell hw2 _ (by omega)).trans HK1.out)
    obtain ⟨X2, hX2⟩ : ∃ X, { X1 with nm := nm } = X := ⟨_, rfl⟩
    have HR2 : Hid (Rd w w2 (w.heap.size + 1) (w.heap.size + 1 + 1) rq0 X2) := Lib.hid (by rw [← hw2, ← hX2]; exact HR1.out.setNm nm)
    have HX2 := Lib.hid hX2
    clear hX2
    clear HC0
    go_wp2_with (first
        | (refine wpList_ld rfl _ _ rfl _ rfl _ HLD.out ?_)
        | (refine wpList_store_mid rfl 40 _ _ rfl (w.heap.size + 1 + 1) 2 _ rfl rfl HTH.out (by rw [bcs_size, HD.out.1]; exact size32) (bcs_one _) ?_; rw [HW1.out])
        | (refine wpList_ld rfl _ _ rfl _ rfl _ (HR2.out.own.load HR2.out.dx) ?_)
        | (refine wpList_store_row rfl 42 _ _ rfl (w.heap.size + 1) _ rfl rfl 42 _ HR2.out.out (Rq.sizeOf X2 HR2.out.dx) (Rq.sizes rq0 X2 rfl HR2.out.dx) (Rq.one X2) ?_; generalize hwZ : World.setRow _ _ _ = wZ; have HZ : Hid (Rd w wZ (w.heap.size + 1) (w.heap.size + 1 + 1) X2 X2) := Lib.hid (by rw [← hwZ]; exact HR2.out.ans X2 HR2.out.dx); clear hwZ))
    refine bodyPost_ret (HZ.out.out.res1 HZ.out.dy rfl _ rfl) rfl ?_
    exact ⟨X2, rfl, by rw [← HX2.out, ← HX1.out]; exact ⟨Bs.empty _ _, fun _ => rfl, Nat.le_refl _, Nat.zero_le _, HD.out, HX.out.nm, hs, by show _ ≤ (3 : Int) ∧ (3 : Int) ≤ _; omega, i64_zero, i64_zero⟩, by rw [HBN.out, ← HX2.out, ← HX1.out]; unfold Rq.rc; simp [rqKS, rq0, dg0]; try rfl, HZ.out.le, by rw [← HX2.out, ← HX1.out]; simp [bareQ, rqKS, rq0]⟩
  · have HC0 := Lib.hid ((HBX.out wS HK0.out).cells HX.out.dg.1)
    have HLD := Lib.hid (Mx.loadDig (P := Try.prog) (HBX.out wS HK0.out) 40 Try.underlying40 rfl (by rw [HX.out.dg.1]; exact size32) 2 rfl)
    have g1 := ((HBX.out wS HK0.out).cells HX.out.dg.1).2.2.1
    have cl1 := (HR0.out.own.cells HR0.out.dx).2.2.1
    have fr1 := HR0.out.own.frozen 34
    obtain ⟨w1, hw1⟩ : ∃ W, wS.setCell ⟨w.heap.size + 1 + 1, 34, none⟩ (.string nm) = W := ⟨_, rfl⟩
    have HK1 : Hid (w1.heap[w.heap.size]? = wA.heap[w.heap.size]?) := Lib.hid ((keep_cell hw1 _ (by omega)).trans HK0.out)
    obtain ⟨X1, hX1⟩ : ∃ X, { (rqKS 4 s) with nm := nm } = X := ⟨_, rfl⟩
    have HR1 : Hid (Rd w w1 (w.heap.size + 1) (w.heap.size + 1 + 1) rq0 X1) := Lib.hid (by rw [← hw1, ← hX1]; exact HR0.out.setNm nm)
    have HX1 := Lib.hid hX1
    clear hX1
    clear HC0
    go_wp2_with (first
        | (refine wpList_ld rfl _ _ rfl _ rfl _ (HR1.out.own.load HR1.out.dx) ?_)
        | (refine wpList_store_row rfl 42 _ _ rfl (w.heap.size + 1) _ rfl rfl 42 _ HR1.out.out (Rq.sizeOf X1 HR1.out.dx) (Rq.sizes rq0 X1 rfl HR1.out.dx) (Rq.one X1) ?_; generalize hwZ : World.setRow _ _ _ = wZ; have HZ : Hid (Rd w wZ (w.heap.size + 1) (w.heap.size + 1 + 1) X1 X1) := Lib.hid (by rw [← hwZ]; exact HR1.out.ans X1 HR1.out.dx); clear hwZ))
    refine bodyPost_ret (HZ.out.out.res1 HZ.out.dy rfl _ rfl) rfl ?_
    exact ⟨X1, rfl, by rw [← HX1.out]; exact ⟨Bs.empty _ _, fun _ => rfl, Nat.le_refl _, Nat.zero_le _, dok_zero, HX.out.nm, hs, by show _ ≤ (4 : Int) ∧ (4 : Int) ≤ _; omega, i64_zero, i64_zero⟩, by rw [HBN.out, ← HX1.out]; unfold Rq.rc; simp [rqKS, rq0, dg0]; try rfl, HZ.out.le, by rw [← HX1.out]; simp [bareQ, rqKS, rq0]⟩
  · have HC0 := Lib.hid ((HBX.out wS HK0.out).cells HX.out.dg.1)
    have HLD := Lib.hid (Mx.loadDig (P := Try.prog) (HBX.out wS HK0.out) 40 Try.underlying40 rfl (by rw [HX.out.dg.1]; exact size32) 2 rfl)
    have HTH : Hid (wS.there (w.heap.size + 1 + 1) 2 (bcs dg).size) := Lib.hid (by rw [bcs_size, HD.out.1]; exact Mx.there HR0.out.own 2 32 (by rw [HR0.out.dx]; simp [Rq.a, Rq.z]))
    obtain ⟨w1, hw1⟩ : ∃ W, wS.setCells (w.heap.size + 1 + 1) 2 (bcs dg).toList = W := ⟨_, rfl⟩
    have HK1 : Hid (w1.heap[w.heap.size]? = wA.heap[w.heap.size]?) := Lib.hid ((keep_cells hw1 _ (by omega)).trans HK0.out)
    have HW1 := Lib.hid hw1
    obtain ⟨X1, hX1⟩ : ∃ X, { (rqKS 5 s) with dg := dg } = X := ⟨_, rfl⟩
    have HR1 : Hid (Rd w w1 (w.heap.size + 1) (w.heap.size + 1 + 1) rq0 X1) := Lib.hid (by rw [← hw1, ← hX1]; exact HR0.out.setDg dg HD.out.1)
    have HX1 := Lib.hid hX1
    clear hw1
    clear hX1
    clear HC0
    go_wp2_with (first
        | (refine wpList_ld rfl _ _ rfl _ rfl _ HLD.out ?_)
        | (refine wpList_store_mid rfl 40 _ _ rfl (w.heap.size + 1 + 1) 2 _ rfl rfl HTH.out (by rw [bcs_size, HD.out.1]; exact size32) (bcs_one _) ?_; rw [HW1.out])
        | (refine wpList_ld rfl _ _ rfl _ rfl _ (HR1.out.own.load HR1.out.dx) ?_)
        | (refine wpList_store_row rfl 42 _ _ rfl (w.heap.size + 1) _ rfl rfl 42 _ HR1.out.out (Rq.sizeOf X1 HR1.out.dx) (Rq.sizes rq0 X1 rfl HR1.out.dx) (Rq.one X1) ?_; generalize hwZ : World.setRow _ _ _ = wZ; have HZ : Hid (Rd w wZ (w.heap.size + 1) (w.heap.size + 1 + 1) X1 X1) := Lib.hid (by rw [← hwZ]; exact HR1.out.ans X1 HR1.out.dx); clear hwZ))
    refine bodyPost_ret (HZ.out.out.res1 HZ.out.dy rfl _ rfl) rfl ?_
    exact ⟨X1, rfl, by rw [← HX1.out]; exact ⟨Bs.empty _ _, fun _ => rfl, Nat.le_refl _, Nat.zero_le _, HD.out, (Nat.zero_le 140737488355328 : (0 : Nat) ≤ 140737488355328), hs, by show _ ≤ (5 : Int) ∧ (5 : Int) ≤ _; omega, i64_zero, i64_zero⟩, by rw [HBN.out, ← HX1.out]; unfold Rq.rc; simp [rqKS, rq0, dg0]; try rfl, HZ.out.le, by rw [← HX1.out]; simp [bareQ, rqKS, rq0]⟩
  · have HC0 := Lib.hid ((HBX.out wS HK0.out).cells HX.out.dg.1)
    have HLD := Lib.hid (Mx.loadDig (P := Try.prog) (HBX.out wS HK0.out) 40 Try.underlying40 rfl (by rw [HX.out.dg.1]; exact size32) 2 rfl)
    have g1 := ((HBX.out wS HK0.out).cells HX.out.dg.1).2.2.2.2.1
    have cl1 := (HR0.out.own.cells HR0.out.dx).2.2.2.2.1
    have fr1 := HR0.out.own.frozen 36
    obtain ⟨w1, hw1⟩ : ∃ W, wS.setCell ⟨w.heap.size + 1 + 1, 36, none⟩ (.int .i64 N) = W := ⟨_, rfl⟩
    have HK1 : Hid (w1.heap[w.heap.size]? = wA.heap[w.heap.size]?) := Lib.hid ((keep_cell hw1 _ (by omega)).trans HK0.out)
    obtain ⟨X1, hX1⟩ : ∃ X, { (rqKS 6 s) with N := N } = X := ⟨_, rfl⟩
    have HR1 : Hid (Rd w w1 (w.heap.size + 1) (w.heap.size + 1 + 1) rq0 X1) := Lib.hid (by rw [← hw1, ← hX1]; exact HR0.out.setN N)
    have HX1 := Lib.hid hX1
    clear hX1
    have g2 := ((HBX.out w1 HK1.out).cells HX.out.dg.1).2.2.2.2.2
    have cl2 := (HR1.out.own.cells HR1.out.dx).2.2.2.2.2
    have fr2 := HR1.out.own.frozen 37
    obtain ⟨w2, hw2⟩ : ∃ W, w1.setCell ⟨w.heap.size + 1 + 1, 37, none⟩ (.int .i64 Z) = W := ⟨_, rfl⟩
    have HK2 : Hid (w2.heap[w.heap.size]? = wA.heap[w.heap.size]?) := Lib.hid ((keep_cell hw2 _ (by omega)).trans HK1.out)
    obtain ⟨X2, hX2⟩ : ∃ X, { X1 with Z := Z } = X := ⟨_, rfl⟩
    have HR2 : Hid (Rd w w2 (w.heap.size + 1) (w.heap.size + 1 + 1) rq0 X2) := Lib.hid (by rw [← hw2, ← hX2]; exact HR1.out.setZ Z)
    have HX2 := Lib.hid hX2
    clear hX2
    clear HC0
    go_wp2_with (first
        | (refine wpList_ld rfl _ _ rfl _ rfl _ (HR2.out.own.load HR2.out.dx) ?_)
        | (refine wpList_store_row rfl 42 _ _ rfl (w.heap.size + 1) _ rfl rfl 42 _ HR2.out.out (Rq.sizeOf X2 HR2.out.dx) (Rq.sizes rq0 X2 rfl HR2.out.dx) (Rq.one X2) ?_; generalize hwZ : World.setRow _ _ _ = wZ; have HZ : Hid (Rd w wZ (w.heap.size + 1) (w.heap.size + 1 + 1) X2 X2) := Lib.hid (by rw [← hwZ]; exact HR2.out.ans X2 HR2.out.dx); clear hwZ))
    refine bodyPost_ret (HZ.out.out.res1 HZ.out.dy rfl _ rfl) rfl ?_
    exact ⟨X2, rfl, by rw [← HX2.out, ← HX1.out]; exact ⟨Bs.empty _ _, fun _ => rfl, Nat.le_refl _, Nat.zero_le _, dok_zero, (Nat.zero_le 140737488355328 : (0 : Nat) ≤ 140737488355328), hs, by show _ ≤ (6 : Int) ∧ (6 : Int) ≤ _; omega, hN, hZ⟩, by rw [HBN.out, ← HX2.out, ← HX1.out]; unfold Rq.rc; simp [rqKS, rq0, dg0]; try rfl, HZ.out.le, by rw [← HX2.out, ← HX1.out]; simp [bareQ, rqKS, rq0]⟩
  · have HC0 := Lib.hid ((HBX.out wS HK0.out).cells HX.out.dg.1)
    have HLD := Lib.hid (Mx.loadDig (P := Try.prog) (HBX.out wS HK0.out) 40 Try.underlying40 rfl (by rw [HX.out.dg.1]; exact size32) 2 rfl)
    have g1 := ((HBX.out wS HK0.out).cells HX.out.dg.1).2.2.2.2.1
    have cl1 := (HR0.out.own.cells HR0.out.dx).2.2.2.2.1
    have fr1 := HR0.out.own.frozen 36
    obtain ⟨w1, hw1⟩ : ∃ W, wS.setCell ⟨w.heap.size + 1 + 1, 36, none⟩ (.int .i64 N) = W := ⟨_, rfl⟩
    have HK1 : Hid (w1.heap[w.heap.size]? = wA.heap[w.heap.size]?) := Lib.hid ((keep_cell hw1 _ (by omega)).trans HK0.out)
    obtain ⟨X1, hX1⟩ : ∃ X, { (rqKS 7 s) with N := N } = X := ⟨_, rfl⟩
    have HR1 : Hid (Rd w w1 (w.heap.size + 1) (w.heap.size + 1 + 1) rq0 X1) := Lib.hid (by rw [← hw1, ← hX1]; exact HR0.out.setN N)
    have HX1 := Lib.hid hX1
    clear hX1
    clear HC0
    go_wp2_with (first
        | (refine wpList_ld rfl _ _ rfl _ rfl _ (HR1.out.own.load HR1.out.dx) ?_)
        | (refine wpList_store_row rfl 42 _ _ rfl (w.heap.size + 1) _ rfl rfl 42 _ HR1.out.out (Rq.sizeOf X1 HR1.out.dx) (Rq.sizes rq0 X1 rfl HR1.out.dx) (Rq.one X1) ?_; generalize hwZ : World.setRow _ _ _ = wZ; have HZ : Hid (Rd w wZ (w.heap.size + 1) (w.heap.size + 1 + 1) X1 X1) := Lib.hid (by rw [← hwZ]; exact HR1.out.ans X1 HR1.out.dx); clear hwZ))
    refine bodyPost_ret (HZ.out.out.res1 HZ.out.dy rfl _ rfl) rfl ?_
    exact ⟨X1, rfl, by rw [← HX1.out]; exact ⟨Bs.empty _ _, fun _ => rfl, Nat.le_refl _, Nat.zero_le _, dok_zero, (Nat.zero_le 140737488355328 : (0 : Nat) ≤ 140737488355328), hs, by show _ ≤ (7 : Int) ∧ (7 : Int) ≤ _; omega, hN, i64_zero⟩, by rw [HBN.out, ← HX1.out]; unfold Rq.rc; simp [rqKS, rq0, dg0]; try rfl, HZ.out.le, by rw [← HX1.out]; simp [bareQ, rqKS, rq0]⟩
  · have HC0 := Lib.hid ((HBX.out wS HK0.out).cells HX.out.dg.1)
    have HLD := Lib.hid (Mx.loadDig (P := Try.prog) (HBX.out wS HK0.out) 40 Try.underlying40 rfl (by rw [HX.out.dg.1]; exact size32) 2 rfl)
    have g1 := ((HBX.out wS HK0.out).cells HX.out.dg.1).2.2.2.2.1
    have cl1 := (HR0.out.own.cells HR0.out.dx).2.2.2.2.1
    have fr1 := HR0.out.own.frozen 36
    obtain ⟨w1, hw1⟩ : ∃ W, wS.setCell ⟨w.heap.size + 1 + 1, 36, none⟩ (.int .i64 N) = W := ⟨_, rfl⟩
    have HK1 : Hid (w1.heap[w.heap.size]? = wA.heap[w.heap.size]?) := Lib.hid ((keep_cell hw1 _ (by omega)).trans HK0.out)
    obtain ⟨X1, hX1⟩ : ∃ X, { (rqKS 8 s) with N := N } = X := ⟨_, rfl⟩
    have HR1 : Hid (Rd w w1 (w.heap.size + 1) (w.heap.size + 1 + 1) rq0 X1) := Lib.hid (by rw [← hw1, ← hX1]; exact HR0.out.setN N)
    have HX1 := Lib.hid hX1
    clear hX1
    have g2 := ((HBX.out w1 HK1.out).cells HX.out.dg.1).2.2.2.2.2
    have cl2 := (HR1.out.own.cells HR1.out.dx).2.2.2.2.2
    have fr2 := HR1.out.own.frozen 37
    obtain ⟨w2, hw2⟩ : ∃ W, w1.setCell ⟨w.heap.size + 1 + 1, 37, none⟩ (.int .i64 Z) = W := ⟨_, rfl⟩
    have HK2 : Hid (w2.heap[w.heap.size]? = wA.heap[w.heap.size]?) := Lib.hid ((keep_cell hw2 _ (by omega)).trans HK1.out)
    obtain ⟨X2, hX2⟩ : ∃ X, { X1 with Z := Z } = X := ⟨_, rfl⟩
    have HR2 : Hid (Rd w w2 (w.heap.size + 1) (w.heap.size + 1 + 1) rq0 X2) := Lib.hid (by rw [← hw2, ← hX2]; exact HR1.out.setZ Z)
    have HX2 := Lib.hid hX2
    clear hX2
    clear HC0
    go_wp2_with (first
        | (refine wpList_ld rfl _ _ rfl _ rfl _ (HR2.out.own.load HR2.out.dx) ?_)
        | (refine wpList_store_row rfl 42 _ _ rfl (w.heap.size + 1) _ rfl rfl 42 _ HR2.out.out (Rq.sizeOf X2 HR2.out.dx) (Rq.sizes rq0 X2 rfl HR2.out.dx) (Rq.one X2) ?_; generalize hwZ : World.setRow _ _ _ = wZ; have HZ : Hid (Rd w wZ (w.heap.size + 1) (w.heap.size + 1 + 1) X2 X2) := Lib.hid (by rw [← hwZ]; exact HR2.out.ans X2 HR2.out.dx); clear hwZ))
    refine bodyPost_ret (HZ.out.out.res1 HZ.out.dy rfl _ rfl) rfl ?_
    exact ⟨X2, rfl, by rw [← HX2.out, ← HX1.out]; exact ⟨Bs.empty _ _, fun _ => rfl, Nat.le_refl _, Nat.zero_le _, dok_zero, (Nat.zero_le 140737488355328 : (0 : Nat) ≤ 140737488355328), hs, by show _ ≤ (8 : Int) ∧ (8 : Int) ≤ _; omega, hN, hZ⟩, by rw [HBN.out, ← HX2.out, ← HX1.out]; unfold Rq.rc; simp [rqKS, rq0, dg0]; try rfl, HZ.out.le, by rw [← HX2.out, ← HX1.out]; simp [bareQ, rqKS, rq0]⟩
theorem rbare_any (x : Rq) (w : World) (hx : x.Fit w) (hk : 1 ≤ x.k ∧ x.k ≤ 8) :
    Calls Try.prog 13 #[x.v] w fun e w' => ∃ y : Rq, e = .returned y.v ∧ y.Fit w' ∧ y.rc = bareN x.rc ∧ Below w.heap.size w w' :=
  (rbareQ_any x w hx hk).mono fun e w' ⟨y, h1, h2, h3, h4, _⟩ => ⟨y, h1, h2, h3, h4⟩
end Go.Proofs.Ytcjflabipkppfaa

namespace Go.Proofs.Ytcjflabipkppfaa
set_option linter.unusedVariables false

theorem rp_next {zs : List Int} (hz : Byt zs) {a : Int} (h : rpE zs a = 0) : 0 ≤ a ∧ a + 21 ≤ rpN zs a ∧ rpN zs a ≤ zs.length := by
  have hps : psE zs a = 0 := by
    unfold rpE at h
    by_cases h0 : psE zs a = 0
    · exact h0
    · rw [if_pos h0] at h
      exact h
  obtain ⟨m, n, rfl, hle, hn6, hdn, hk', hs', hdb, he, hfr⟩ := ps_of hz hps
  unfold rpN
  rw [if_pos h, he]
  omega
def need (zs : List Int) (a : Int) : Nat := ((zs.length : Int) - a).toNat + 1
theorem bpGo_fuel {zs : List Int} (hz : Byt zs) (seg from_ : Int) : ∀ (f g : Nat) (a : Int) (out : List Wd), need zs a ≤ f → need zs a ≤ g → bpGo f zs seg from_ a out = bpGo g zs seg from_ a out
  | 0, _, _, _, h, _ => by unfold need at h; omega
  | _, 0, _, _, _, h => by unfold need at h; omega
  | f + 1, g + 1, a, out, hf, hg => by
    unfold bpGo
    split
    · rfl
    rename_i h1
    have h0 : rpE zs a = 0 := Decidable.of_not_not h1
    obtain ⟨ha, hn, hl⟩ := rp_next hz h0
    split
    · rfl
    split
    · rfl
    split
    · rfl
    · refine bpGo_fuel hz seg from_ f g _ _ ?_ ?_
      · unfold need at hf ⊢; omega
      · unfold need at hg ⊢; omega
/-- what is left to read, from a place on -/
def bpR (zs : List Int) (seg from_ a : Int) (out : List Wd) : Bp := bpGo (need zs a) zs seg from_ a out
theorem bpF_start {zs : List Int} (hz : Byt zs) (a seg : Int) : bpF zs a seg = bpR zs seg a a [] := by
  unfold bpF bpR
  by_cases ha : 0 ≤ a
  · exact bpGo_fuel hz seg a _ _ a [] (by unfold need; omega) (Nat.le_refl _)
  · have hE : rpE zs a ≠ 0 := fun h => ha (rp_next hz h).1
    have e : ∀ f, bpGo (f + 1) zs seg a a [] = bpNo (rpE zs a) := fun f => by
      unfold bpGo
      rw [if_pos hE]
    rw [e, show need zs a = ((zs.length : Int) - a).toNat + 1 from rfl, e]
/-- a step of the reading -/
theorem bpR_step {zs : List Int} (hz : Byt zs) (seg from_ a : Int) (out : List Wd) : bpR zs seg from_ a out =
    if rpE zs a ≠ 0 then bpNo (rpE zs a)
    else if out ≠ [] ∧ ((rpR zs a).s < 1 ∨ (rpR zs a).s - 1 ≠ lastS out) then bpNo 3
    else if (rpR zs a).k = 6 ∧ out ≠ [] ∧ (rpR zs a).n = out.length ∧ (rpR zs a).z = a - from_ then ⟨out, rpN zs a, (rpR zs a).s, 0⟩
    else if (rpR zs a).k > 5 then bpNo 3
    else bpR zs seg from_ (rpN zs a) (out ++ [wordN (rpR zs a) seg a (rpN zs a - a)]) := by
  have e : bpR zs seg from_ a out = bpGo (((zs.length : Int) - a).toNat + 1) zs seg from_ a out := rfl
  rw [e]
  unfold bpGo
  split
  · rfl
  rename_i h1
  have h0 : rpE zs a = 0 := Decidable.of_not_not h1
  obtain ⟨ha, hn, hl⟩ := rp_next hz h0
  split
  · rfl
  split
  · rfl
  split
  · rfl
  · unfold bpR
    exact bpGo_fuel hz seg from_ _ _ _ _ (by unfold need; omega) (Nat.le_refl _)
end Go.Proofs.Ytcjflabipkppfaa

namespace Go.Proofs.Ytcjflabipkppfaa
set_option linter.unusedVariables false
open Go.RowKit Go.Lib

def cRightOk : Prop := ∀ (x : Rq) (w : World), x.Fit w → x.n ≤ 2097152 → Calls Try.prog 29 #[x.v] w fun e w' => e = .returned (.int .i64 (rightN x.rc)) ∧ Below w.heap.size w w'
end Go.Proofs.Ytcjflabipkppfaa

namespace Go.Proofs.Ytcjflabipkppfaa
set_option linter.unusedVariables false
open Go.RowKit Go.Lib

set_option maxRecDepth 100000 in
set_option maxHeartbeats 4000000 in
theorem own_in (x : Rq) (w : World) (hx : x.Fit w) (hk : 1 ≤ x.k ∧ x.k ≤ 8) :
    Calls Try.prog 31 #[x.v] w fun e w' => ∃ y : Rq, e = .returned y.v ∧ y.Fit w' ∧ y.rc = bareN x.rc ∧ Below w.heap.size w w' ∧ y = bareQ x := by
  obtain ⟨wA, hA, hm, hb, c0, c1, c34, c35, c36, c37⟩ := box_rec w x hx.dg.1
  have hsA : wA.heap.size = w.heap.size + 1 := by rw [← hA]; simp
  have HX := Lib.hid hx
  have HBX := Lib.hid fun W (hW : W.heap[w.heap.size]? = wA.heap[w.heap.size]?) => show Rm W w.heap.size x from Mx.keep hm hW
  have HB := Lib.hid hb
  have HSA := Lib.hid hsA
  have HNW : Hid (∀ Z : Obj, ((wA.alloc Z).alloc Z).heap[w.heap.size + 1 + 1]? = some Z) := Lib.hid fun Z => by rw [← hsA]; exact heap_alloc2_new _ _ _
  have HFT := Lib.hid fun W (hW : Below w.heap.size w W) => hx.later hW
  have HBN := Lib.hid (show bareN x.rc = _ from rfl)
  unfold bareN Rq.rc at HBN
  dsimp only at HBN
  generalize hBN : bareN x.rc = R at *
  replace HBN : Hid (R = ⟨x.k, x.s, if x.k ≤ 3 ∨ x.k = 5 then x.dg else dg0, if x.k = 3 ∨ x.k = 4 then numsOf x.nm else [], if x.k ≤ 2 then x.da else [], if x.k ≥ 6 then x.N else 0, if x.k = 6 ∨ x.k = 8 then x.Z else 0⟩) := Lib.hid (by rw [← hBN]; rfl)
  have HD := Lib.hid hx.dg
  have hs := hx.s
  have hN := hx.N
  have hZ := hx.Z
  unfold Rq.v
  obtain ⟨k, s, dg, nm, p, n, c, da, N, Z⟩ := x
  dsimp only at *
  generalize hM : mixC _ _ _ = M at *
  clear hM hx hm hb c34 c35 c36 c37 hBN
  go_enter Try.func31, Try.ntmps31
  go_upto_region 2 with (first
    | (refine wpList_build_is rfl 42 _ rfl (mixC (rqKS k s).a (rqKS k s).dg (rqKS k s).z) ?_ ?_; kernel_rfl)
    | (refine wpList_store_row rfl 42 _ _ rfl (w.heap.size + 1 + 1) _ rfl rfl 42 _ (HNW.out _) ((rqKS k s).sizeOf rfl) (Rq.sizes rq0 (rqKS k s) rfl rfl) (rqKS k s).one ?_; generalize hwS : World.setRow _ _ _ = wS))
  have HR0 : Hid (Rd w wS (w.heap.size + 1) (w.heap.size + 1 + 1) rq0 (rqKS k s)) := Lib.hid (by
    rw [← hwS]
    have h1 : Rd wA ((wA.alloc (.cells (mixC rq0.a rq0.dg rq0.z) 42)).alloc (.cells (mixC rq0.a rq0.dg rq0.z) 42)) wA.heap.size (wA.heap.size + 1) rq0 rq0 := Rd.start wA
    rw [HSA.out] at h1
    exact Rd.put ⟨h1.ne, by omega, by omega, h1.out, h1.own, below_step HB.out h1.le, h1.dy, h1.dx⟩ (rqKS k s) rfl)
  have HK0 : Hid (wS.heap[w.heap.size]? = wA.heap[w.heap.size]?) := Lib.hid (by rw [keep_row hwS _ (by omega), heap_alloc_old _ _ (by simp; rw [HSA.out]; omega), heap_alloc_old _ _ (by rw [HSA.out]; omega)])
  clear hwS c0 c1
  rcases kinds (k := k) with h | h | rfl | rfl | rfl | rfl | rfl | rfl | rfl | rfl
  · omega
  · omega
  · have HC0 := Lib.hid ((HBX.out wS HK0.out).cells HX.out.dg.1)
    have g1 := ((HBX.out wS HK0.out).cells HX.out.dg.1).2.2.2.1
    have cl1 := (HR0.out.own.cells HR0.out.dx).2.2.2.1
    have fr1 := HR0.out.own.frozen 35
    obtain ⟨w1, hw1⟩ : ∃ W, wS.setCell ⟨w.heap.size + 1 + 1, 35, none⟩ (.slice p n c) = W := ⟨_, rfl⟩
    have HK1 : Hid (w1.heap[w.heap.size]? = wA.heap[w.heap.size]?) := Lib.hid ((keep_cell hw1 _ (by omega)).trans HK0.out)
    obtain ⟨X1, hX1⟩ : ∃ X, { (rqKS 1 s) with p := p, n := n, c := c, da := da } = X := ⟨_, rfl⟩
    have HR1 : Hid (Rd w w1 (w.heap.size + 1) (w.heap.size + 1 + 1) rq0 X1) := Lib.hid (by rw [← hw1, ← hX1]; exact HR0.out.setDa p n c da)
    have HX1 := Lib.hid hX1
    clear hX1
    have HLD := Lib.hid (Mx.loadDig (P := Try.prog) (HBX.out w1 HK1.out) 40 Try.underlying40 rfl (by rw [HX.out.dg.1]; exact size32) 2 rfl)
    have HTH : Hid (w1.there (w.heap.size + 1 + 1) 2 (bcs dg).size) := Lib.hid (by rw [bcs_size, HD.out.1]; exact Mx.there HR1.out.own 2 32 (by rw [HR1.out.dx]; simp [Rq.a, Rq.z]))
    obtain ⟨w2, hw2⟩ : ∃ W, w1.setCells (w.heap.size + 1 + 1) 2 (bcs dg).toList = W := ⟨_, rfl⟩
    have HK2 : Hid (w2.heap[w.heap.size]? = wA.heap[w.heap.size]?) := Lib.hid ((keep_cells hw2 _ (by omega)).trans HK1.out)
    have HWD := Lib.hid hw2
    obtain ⟨X2, hX2⟩ : ∃ X, { X1 with dg := dg } = X := ⟨_, rfl⟩
    have HR2 : Hid (Rd w w2 (w.heap.size + 1) (w.heap.size + 1 + 1) rq0 X2) := Lib.hid (by rw [← hw2, ← hX2]; exact HR1.out.setDg dg HD.out.1)
    have HX2 := Lib.hid hX2
    clear hw2
    clear hX2
    obtain ⟨e0, _⟩ := HC0.out
    clear HC0
    go_wp2_with (first
        | (refine wpList_ld rfl _ _ rfl _ rfl _ HLD.out ?_)
        | (refine wpList_store_mid rfl 40 _ _ rfl (w.heap.size + 1 + 1) 2 _ rfl rfl HTH.out (by rw [bcs_size, HD.out.1]; exact size32) (bcs_one _) ?_; rw [HWD.out])
        | (refine wpList_ld rfl _ _ rfl _ rfl _ (HR2.out.own.load HR2.out.dx) ?_)
        | (refine wpList_store_row rfl 42 _ _ rfl (w.heap.size + 1) _ rfl rfl 42 _ HR2.out.out (Rq.sizeOf X2 HR2.out.dx) (Rq.sizes rq0 X2 rfl HR2.out.dx) (Rq.one X2) ?_; generalize hwZ : World.setRow _ _ _ = wZ; have HZ : Hid (Rd w wZ (w.heap.size + 1) (w.heap.size + 1 + 1) X2 X2) := Lib.hid (by rw [← hwZ]; exact HR2.out.ans X2 HR2.out.dx); clear hwZ))
    refine bodyPost_ret (HZ.out.out.res1 HZ.out.dy rfl _ rfl) rfl ?_
    exact ⟨X2, rfl, by rw [← HX2.out, ← HX1.out]; exact ⟨(HFT.out _ HZ.out.le).bs, HX.out.pc, HX.out.nc, HX.out.cm, HD.out, (Nat.zero_le 140737488355328 : (0 : Nat) ≤ 140737488355328), hs, by show _ ≤ (1 : Int) ∧ (1 : Int) ≤ _; omega, i64_zero, i64_zero⟩, by rw [HBN.out, ← HX2.out, ← HX1.out]; unfold Rq.rc; simp [rqKS, rq0, dg0]; try rfl, HZ.out.le, by rw [← HX2.out, ← HX1.out]; simp [bareQ, rqKS, rq0]⟩
  · have HC0 := Lib.hid ((HBX.out wS HK0.out).cells HX.out.dg.1)
    have g1 := ((HBX.out wS HK0.out).cells HX.out.dg.1).2.2.2.1
    have cl1 := (HR0.out.own.cells HR0.out.dx).2.2.2.1
    have fr1 := HR0.out.own.frozen 35
    obtain ⟨w1, hw1⟩ : ∃ W, wS.setCell ⟨w.heap.size + 1 + 1, 35, none⟩ (.slice p n c) = W := ⟨_, rfl⟩
    have HK1 : Hid (w1.heap[w.heap.size]? = wA.heap[w.heap.size]?) := Lib.hid ((keep_cell hw1 _ (by omega)).trans HK0.out)
    obtain ⟨X1, hX1⟩ : ∃ X, { (rqKS 2 s) with p := p, n := n, c := c, da := da } = X := ⟨_, rfl⟩
    have HR1 : Hid (Rd w w1 (w.heap.size + 1) (w.heap.size + 1 + 1) rq0 X1) := Lib.hid (by rw [← hw1, ← hX1]; exact HR0.out.setDa p n c da)
    have HX1 := Lib.hid hX1
    clear hX1
    have HLD := Lib.hid (Mx.loadDig (P := Try.prog) (HBX.out w1 HK1.out) 40 Try.underlying40 rfl (by rw [HX.out.dg.1]; exact size32) 2 rfl)
    have HTH : Hid (w1.there (w.heap.size + 1 + 1) 2 (bcs dg).size) := Lib.hid (by rw [bcs_size, HD.out.1]; exact Mx.there HR1.out.own 2 32 (by rw [HR1.out.dx]; simp [Rq.a, Rq.z]))
    obtain ⟨w2, hw2⟩ : ∃ W, w1.setCells (w.heap.size + 1 + 1) 2 (bcs dg).toList = W := ⟨_, rfl⟩
    have HK2 : Hid (w2.heap[w.heap.size]? = wA.heap[w.heap.size]?) := Lib.hid ((keep_cells hw2 _ (by omega)).trans HK1.out)
    have HWD := Lib.hid hw2
    obtain ⟨X2, hX2⟩ : ∃ X, { X1 with dg := dg } = X := ⟨_, rfl⟩
    have HR2 : Hid (Rd w w2 (w.heap.size + 1) (w.heap.size + 1 + 1) rq0 X2) := Lib.hid (by rw [← hw2, ← hX2]; exact HR1.out.setDg dg HD.out.1)
    have HX2 := Lib.hid hX2
    clear hw2
    clear hX2
    obtain ⟨e0, _⟩ := HC0.out
    clear HC0
    go_wp2_with (first
        | (refine wpList_ld rfl _ _ rfl _ rfl _ HLD.out ?_)
        | (refine wpList_store_mid rfl 40 _ _ rfl (w.heap.size + 1 + 1) 2 _ rfl rfl HTH.out (by rw [bcs_size, HD.out.1]; exact size32) (bcs_one _) ?_; rw [HWD.out])
        | (refine wpList_ld rfl _ _ rfl _ rfl _ (HR2.out.own.load HR2.out.dx) ?_)
        | (refine wpList_store_row rfl 42 _ _ rfl (w.heap.size + 1) _ rfl rfl 42 _ HR2.out.out (Rq.sizeOf X2 HR2.out.dx) (Rq.sizes rq0 X2 rfl HR2.out.dx) (Rq.one X2) ?_; generalize hwZ : World.setRow _ _ _ = wZ; have HZ : Hid (Rd w wZ (w.heap.size + 1) (w.heap.size + 1 + 1) X2 X2) := Lib.hid (by rw [← hwZ]; exact HR2.out.ans X2 HR2.out.dx); clear hwZ))
    refine bodyPost_ret (HZ.out.out.res1 HZ.out.dy rfl _ rfl) rfl ?_
    exact ⟨X2, rfl, by rw [← HX2.out, ← HX1.out]; exact ⟨(HFT.out _ HZ.out.le).bs, HX.out.pc, HX.out.nc, HX.out.cm, HD.out, (Nat.zero_le 140737488355328 : (0 : Nat) ≤ 140737488355328), hs, by show _ ≤ (2 : Int) ∧ (2 : Int) ≤ _; omega, i64_zero, i64_zero⟩, by rw [HBN.out, ← HX2.out, ← HX1.out]; unfold Rq.rc; simp [rqKS, rq0, dg0]; try rfl, HZ.out.le, by rw [← HX2.out, ← HX1.out]; simp [bareQ, rqKS, rq0]⟩
  · have HC0 := Lib.hid ((HBX.out wS HK0.out).cells HX.out.dg.1)
    have HLD := Lib.hid (Mx.loadDig (P := Try.prog) (HBX.out wS HK0.out) 40 Try.underlying40 rfl (by rw [HX.out.dg.1]; exact size32) 2 rfl)
    have HTH : Hid (wS.there (w.heap.size + 1 + 1) 2 (bcs dg).size) := Lib.hid (by rw [bcs_size, HD.out.1]; exact Mx.there HR0.out.own 2 32 (by rw [HR0.out.dx]; simp [Rq.a, Rq.z]))
    obtain ⟨w1, hw1⟩ : ∃ W, wS.setCells (w.heap.size + 1 + 1) 2 (bcs dg).toList = W := ⟨_, rfl⟩
    have HK1 : Hid (w1.heap[w.heap.size]? = wA.heap[w.heap.size]?) := Lib.hid ((keep_cells hw1 _ (by omega)).trans HK0.out)
    have HWD := Lib.hid hw1
    obtain ⟨X1, hX1⟩ : ∃ X, { (rqKS 3 s) with dg := dg } = X := ⟨_, rfl⟩
    have HR1 : Hid (Rd w w1 (w.heap.size + 1) (w.heap.size + 1 + 1) rq0 X1) := Lib.hid (by rw [← hw1, ← hX1]; exact HR0.out.setDg dg HD.out.1)
    have HX1 := Lib.hid hX1
    clear hw1
    clear hX1
    have g2 := ((HBX.out w1 HK1.out).cells HX.out.dg.1).2.2.1
    have cl2 := (HR1.out.own.cells HR1.out.dx).2.2.1
    have fr2 := HR1.out.own.frozen 34
    obtain ⟨w2, hw2⟩ : ∃ W, w1.setCell ⟨w.heap.size + 1 + 1, 34, none⟩ (.string nm) = W := ⟨_, rfl⟩
    have HK2 : Hid (w2.heap[w.heap.size]? = wA.heap[w.heap.size]?) := Lib.hid ((keep_cell hw2 _ (by omega)).trans HK1.out)
    obtain ⟨X2, hX2⟩ : ∃ X, { X1 with nm := nm } = X := ⟨_, rfl⟩
    have HR2 : Hid (Rd w w2 (w.heap.size + 1) (w.heap.size + 1 + 1) rq0 X2) := Lib.hid (by rw [← hw2, ← hX2]; exact HR1.out.setNm nm)
    have HX2 := Lib.hid hX2
    clear hX2
    obtain ⟨e0, _⟩ := HC0.out
    clear HC0
    go_wp2_with (first
        | (refine wpList_ld rfl _ _ rfl _ rfl _ HLD.out ?_)
        | (refine wpList_store_mid rfl 40 _ _ rfl (w.heap.size + 1 + 1) 2 _ rfl rfl HTH.out (by rw [bcs_size, HD.out.1]; exact size32) (bcs_one _) ?_; rw [HWD.out])
        | (refine wpList_ld rfl _ _ rfl _ rfl _ (HR2.out.own.load HR2.out.dx) ?_)
        | (refine wpList_store_row rfl 42 _ _ rfl (w.heap.size + 1) _ rfl rfl 42 _ HR2.out.out (Rq.sizeOf X2 HR2.out.dx) (Rq.sizes rq0 X2 rfl HR2.out.dx) (Rq.one X2) ?_; generalize hwZ : World.setRow _ _ _ = wZ; have HZ : Hid (Rd w wZ (w.heap.size + 1) (w.heap.size + 1 + 1) X2 X2) := Lib.hid (by rw [← hwZ]; exact HR2.out.ans X2 HR2.out.dx); clear hwZ))
    refine bodyPost_ret (HZ.out.out.res1 HZ.out.dy rfl _ rfl) rfl ?_
    exact ⟨X2, rfl, by rw [← HX2.out, ← HX1.out]; exact ⟨Bs.empty _ _, fun _ => rfl, Nat.le_refl _, Nat.zero_le _, HD.out, HX.out.nm, hs, by show _ ≤ (3 : Int) ∧ (3 : Int) ≤ _; omega, i64_zero, i64_zero⟩, by rw [HBN.out, ← HX2.out, ← HX1.out]; unfold Rq.rc; simp [rqKS, rq0, dg0]; try rfl, HZ.out.le, by rw [← HX2.out, ← HX1.out]; simp [bareQ, rqKS, rq0]⟩
  · have HC0 := Lib.hid ((HBX.out wS HK0.out).cells HX.out.dg.1)
    have g1 := ((HBX.out wS HK0.out).cells HX.out.dg.1).2.2.1
    have cl1 := (HR0.out.own.cells HR0.out.dx).2.2.1
    have fr1 := HR0.out.own.frozen 34
    obtain ⟨w1, hw1⟩ : ∃ W, wS.setCell ⟨w.heap.size + 1 + 1, 34, none⟩ (.string nm) = W := ⟨_, rfl⟩
    have HK1 : Hid (w1.heap[w.heap.size]? = wA.heap[w.heap.size]?) := Lib.hid ((keep_cell hw1 _ (by omega)).trans HK0.out)
    obtain ⟨X1, hX1⟩ : ∃ X, { (rqKS 4 s) with nm := nm } = X := ⟨_, rfl⟩
    have HR1 : Hid (Rd w w1 (w.heap.size + 1) (w.heap.size + 1 + 1) rq0 X1) := Lib.hid (by rw [← hw1, ← hX1]; exact HR0.out.setNm nm)
    have HX1 := Lib.hid hX1
    clear hX1
    obtain ⟨e0, _⟩ := HC0.out
    clear HC0
    go_wp2_with (first
        | (refine wpList_ld rfl _ _ rfl _ rfl _ (HR1.out.own.load HR1.out.dx) ?_)
        | (refine wpList_store_row rfl 42 _ _ rfl (w.heap.size + 1) _ rfl rfl 42 _ HR1.out.out (Rq.sizeOf X1 HR1.out.dx) (Rq.sizes rq0 X1 rfl HR1.out.dx) (Rq.one X1) ?_; generalize hwZ : World.setRow _ _ _ = wZ; have HZ : Hid (Rd w wZ (w.heap.size + 1) (w.heap.size + 1 + 1) X1 X1) := Lib.hid (by rw [← hwZ]; exact HR1.out.ans X1 HR1.out.dx); clear hwZ))
    refine bodyPost_ret (HZ.out.out.res1 HZ.out.dy rfl _ rfl) rfl ?_
    exact ⟨X1, rfl, by rw [← HX1.out]; exact ⟨Bs.empty _ _, fun _ => rfl, Nat.le_refl _, Nat.zero_le _, dok_zero, HX.out.nm, hs, by show _ ≤ (4 : Int) ∧ (4 : Int) ≤ _; omega, i64_zero, i64_zero⟩, by rw [HBN.out, ← HX1.out]; unfold Rq.rc; simp [rqKS, rq0, dg0]; try rfl, HZ.out.le, by rw [← HX1.out]; simp [bareQ, rqKS, rq0]⟩
  · have HC0 := Lib.hid ((HBX.out wS HK0.out).cells HX.out.dg.1)
    have HLD := Lib.hid (Mx.loadDig (P := Try.prog) (HBX.out wS HK0.out) 40 Try.underlying40 rfl (by rw [HX.out.dg.1]; exact size32) 2 rfl)
    have HTH : Hid (wS.there (w.heap.size + 1 + 1) 2 (bcs dg).size) := Lib.hid (by rw [bcs_size, HD.out.1]; exact Mx.there HR0.out.own 2 32 (by rw [HR0.out.dx]; simp [Rq.a, Rq.z]))
    obtain ⟨w1, hw1⟩ : ∃ W, wS.setCells (w.heap.size + 1 + 1) 2 (bcs dg).toList = W := ⟨_, rfl⟩
    have HK1 : Hid (w1.heap[w.heap.size]? = wA.heap[w.heap.size]?) := Lib.hid ((keep_cells hw1 _ (by omega)).trans HK0.out)
    have HWD := Lib.hid hw1
    obtain ⟨X1, hX1⟩ : ∃ X, { (rqKS 5 s) with dg := dg } = X := ⟨_, rfl⟩
    have HR1 : Hid (Rd w w1 (w.heap.size + 1) (w.heap.size + 1 + 1) rq0 X1) := Lib.hid (by rw [← hw1, ← hX1]; exact HR0.out.setDg dg HD.out.1)
    have HX1 := Lib.hid hX1
    clear hw1
    clear hX1
    obtain ⟨e0, _⟩ := HC0.out
    clear HC0
    go_wp2_with (first
        | (refine wpList_ld rfl _ _ rfl _ rfl _ HLD.out ?_)
        | (refine wpList_store_mid rfl 40 _ _ rfl (w.heap.size + 1 + 1) 2 _ rfl rfl HTH.out (by rw [bcs_size, HD.out.1]; exact size32) (bcs_one _) ?_; rw [HWD.out])
        | (refine wpList_ld rfl _ _ rfl _ rfl _ (HR1.out.own.load HR1.out.dx) ?_)
        | (refine wpList_store_row rfl 42 _ _ rfl (w.heap.size + 1) _ rfl rfl 42 _ HR1.out.out (Rq.sizeOf X1 HR1.out.dx) (Rq.sizes rq0 X1 rfl HR1.out.dx) (Rq.one X1) ?_; generalize hwZ : World.setRow _ _ _ = wZ; have HZ : Hid (Rd w wZ (w.heap.size + 1) (w.heap.size + 1 + 1) X1 X1) := Lib.hid (by rw [← hwZ]; exact HR1.out.ans X1 HR1.out.dx); clear hwZ))
    refine bodyPost_ret (HZ.out.out.res1 HZ.out.dy rfl _ rfl) rfl ?_
    exact ⟨X1, rfl, by rw [← HX1.out]; exact ⟨Bs.empty _ _, fun _ => rfl, Nat.le_refl _, Nat.zero_le _, HD.out, (Nat.zero_le 140737488355328 : (0 : Nat) ≤ 140737488355328), hs, by show _ ≤ (5 : Int) ∧ (5 : Int) ≤ _; omega, i64_zero, i64_zero⟩, by rw [HBN.out, ← HX1.out]; unfold Rq.rc; simp [rqKS, rq0, dg0]; try rfl, HZ.out.le, by rw [← HX1.out]; simp [bareQ, rqKS, rq0]⟩
  · have HC0 := Lib.hid ((HBX.out wS HK0.out).cells HX.out.dg.1)
    have g1 := ((HBX.out wS HK0.out).cells HX.out.dg.1).2.2.2.2.2
    have cl1 := (HR0.out.own.cells HR0.out.dx).2.2.2.2.2
    have fr1 := HR0.out.own.frozen 37
    obtain ⟨w1, hw1⟩ : ∃ W, wS.setCell ⟨w.heap.size + 1 + 1, 37, none⟩ (.int .i64 Z) = W := ⟨_, rfl⟩
    have HK1 : Hid (w1.heap[w.heap.size]? = wA.heap[w.heap.size]?) := Lib.hid ((keep_cell hw1 _ (by omega)).trans HK0.out)
    obtain ⟨X1, hX1⟩ : ∃ X, { (rqKS 6 s) with Z := Z } = X := ⟨_, rfl⟩
    have HR1 : Hid (Rd w w1 (w.heap.size + 1) (w.heap.size + 1 + 1) rq0 X1) := Lib.hid (by rw [← hw1, ← hX1]; exact HR0.out.setZ Z)
    have HX1 := Lib.hid hX1
    clear hX1
    have g2 := ((HBX.out w1 HK1.out).cells HX.out.dg.1).2.2.2.2.1
    have cl2 := (HR1.out.own.cells HR1.out.dx).2.2.2.2.1
    have fr2 := HR1.out.own.frozen 36
    obtain ⟨w2, hw2⟩ : ∃ W, w1.setCell ⟨w.heap.size + 1 + 1, 36, none⟩ (.int .i64 N) = W := ⟨_, rfl⟩
    have HK2 : Hid (w2.heap[w.heap.size]? = wA.heap[w.heap.size]?) := Lib.hid ((keep_cell hw2 _ (by omega)).trans HK1.out)
    obtain ⟨X2, hX2⟩ : ∃ X, { X1 with N := N } = X := ⟨_, rfl⟩
    have HR2 : Hid (Rd w w2 (w.heap.size + 1) (w.heap.size + 1 + 1) rq0 X2) := Lib.hid (by rw [← hw2, ← hX2]; exact HR1.out.setN N)
    have HX2 := Lib.hid hX2
    clear hX2
    obtain ⟨e0, _⟩ := HC0.out
    clear HC0
    go_wp2_with (first
        | (refine wpList_ld rfl _ _ rfl _ rfl _ (HR2.out.own.load HR2.out.dx) ?_)
        | (refine wpList_store_row rfl 42 _ _ rfl (w.heap.size + 1) _ rfl rfl 42 _ HR2.out.out (Rq.sizeOf X2 HR2.out.dx) (Rq.sizes rq0 X2 rfl HR2.out.dx) (Rq.one X2) ?_; generalize hwZ : World.setRow _ _ _ = wZ; have HZ : Hid (Rd w wZ (w.heap.size + 1) (w.heap.size + 1 + 1) X2 X2) := Lib.hid (by rw [← hwZ]; exact HR2.out.ans X2 HR2.out.dx); clear hwZ))
    refine bodyPost_ret (HZ.out.out.res1 HZ.out.dy rfl _ rfl) rfl ?_
    exact ⟨X2, rfl, by rw [← HX2.out, ← HX1.out]; exact ⟨Bs.empty _ _, fun _ => rfl, Nat.le_refl _, Nat.zero_le _, dok_zero, (Nat.zero_le 140737488355328 : (0 : Nat) ≤ 140737488355328), hs, by show _ ≤ (6 : Int) ∧ (6 : Int) ≤ _; omega, hN, hZ⟩, by rw [HBN.out, ← HX2.out, ← HX1.out]; unfold Rq.rc; simp [rqKS, rq0, dg0]; try rfl, HZ.out.le, by rw [← HX2.out, ← HX1.out]; simp [bareQ, rqKS, rq0]⟩
  · have HC0 := Lib.hid ((HBX.out wS HK0.out).cells HX.out.dg.1)
    have g1 := ((HBX.out wS HK0.out).cells HX.out.dg.1).2.2.2.2.1
    have cl1 := (HR0.out.own.cells HR0.out.dx).2.2.2.2.1
    have fr1 := HR0.out.own.frozen 36
    obtain ⟨w1, hw1⟩ : ∃ W, wS.setCell ⟨w.heap.size + 1 + 1, 36, none⟩ (.int .i64 N) = W := ⟨_, rfl⟩
    have HK1 : Hid (w1.heap[w.heap.size]? = wA.heap[w.heap.size]?) := Lib.hid ((keep_cell hw1 _ (by omega)).trans HK0.out)
    obtain ⟨X1, hX1⟩ : ∃ X, { (rqKS 7 s) with N := N } = X := ⟨_, rfl⟩
    have HR1 : Hid (Rd w w1 (w.heap.size + 1) (w.heap.size + 1 + 1) rq0 X1) := Lib.hid (by rw [← hw1, ← hX1]; exact HR0.out.setN N)
    have HX1 := Lib.hid hX1
    clear hX1
    obtain ⟨e0, _⟩ := HC0.out
    clear HC0
    go_wp2_with (first
        | (refine wpList_ld rfl _ _ rfl _ rfl _ (HR1.out.own.load HR1.out.dx) ?_)
        | (refine wpList_store_row rfl 42 _ _ rfl (w.heap.size + 1) _ rfl rfl 42 _ HR1.out.out (Rq.sizeOf X1 HR1.out.dx) (Rq.sizes rq0 X1 rfl HR1.out.dx) (Rq.one X1) ?_; generalize hwZ : World.setRow _ _ _ = wZ; have HZ : Hid (Rd w wZ (w.heap.size + 1) (w.heap.size + 1 + 1) X1 X1) := Lib.hid (by rw [← hwZ]; exact HR1.out.ans X1 HR1.out.dx); clear hwZ))
    refine bodyPost_ret (HZ.out.out.res1 HZ.out.dy rfl _ rfl) rfl ?_
    exact ⟨X1, rfl, by rw [← HX1.out]; exact ⟨Bs.empty _ _, fun _ => rfl, Nat.le_refl _, Nat.zero_le _, dok_zero, (Nat.zero_le 140737488355328 : (0 : Nat) ≤ 140737488355328), hs, by show _ ≤ (7 : Int) ∧ (7 : Int) ≤ _; omega, hN, i64_zero⟩, by rw [HBN.out, ← HX1.out]; unfold Rq.rc; simp [rqKS, rq0, dg0]; try rfl, HZ.out.le, by rw [← HX1.out]; simp [bareQ, rqKS, rq0]⟩
  · have HC0 := Lib.hid ((HBX.out wS HK0.out).cells HX.out.dg.1)
    have g1 := ((HBX.out wS HK0.out).cells HX.out.dg.1).2.2.2.2.2
    have cl1 := (HR0.out.own.cells HR0.out.dx).2.2.2.2.2
    have fr1 := HR0.out.own.frozen 37
    obtain ⟨w1, hw1⟩ : ∃ W, wS.setCell ⟨w.heap.size + 1 + 1, 37, none⟩ (.int .i64 Z) = W := ⟨_, rfl⟩
    have HK1 : Hid (w1.heap[w.heap.size]? = wA.heap[w.heap.size]?) := Lib.hid ((keep_cell hw1 _ (by omega)).trans HK0.out)
    obtain ⟨X1, hX1⟩ : ∃ X, { (rqKS 8 s) with Z := Z } = X := ⟨_, rfl⟩
    have HR1 : Hid (Rd w w1 (w.heap.size + 1) (w.heap.size + 1 + 1) rq0 X1) := Lib.hid (by rw [← hw1, ← hX1]; exact HR0.out.setZ Z)
    have HX1 := Lib.hid hX1
    clear hX1
    have g2 := ((HBX.out w1 HK1.out).cells HX.out.dg.1).2.2.2.2.1
    have cl2 := (HR1.out.own.cells HR1.out.dx).2.2.2.2.1
    have fr2 := HR1.out.own.frozen 36
    obtain ⟨w2, hw2⟩ : ∃ W, w1.setCell ⟨w.heap.size + 1 + 1, 36, none⟩ (.int .i64 N) = W := ⟨_, rfl⟩
    have HK2 : Hid (w2.heap[w.heap.size]? = wA.heap[w.heap.size]?) := Lib.hid ((keep_cell hw2 _ (by omega)).trans HK1.out)
    obtain ⟨X2, hX2⟩ : ∃ X, { X1 with N := N } = X := ⟨_, rfl⟩
    have HR2 : Hid (Rd w w2 (w.heap.size + 1) (w.heap.size + 1 + 1) rq0 X2) := Lib.hid (by rw [← hw2, ← hX2]; exact HR1.out.setN N)
    have HX2 := Lib.hid hX2
    clear hX2
    obtain ⟨e0, _⟩ := HC0.out
    clear HC0
    go_wp2_with (first
        | (refine wpList_ld rfl _ _ rfl _ rfl _ (HR2.out.own.load HR2.out.dx) ?_)
        | (refine wpList_store_row rfl 42 _ _ rfl (w.heap.size + 1) _ rfl rfl 42 _ HR2.out.out (Rq.sizeOf X2 HR2.out.dx) (Rq.sizes rq0 X2 rfl HR2.out.dx) (Rq.one X2) ?_; generalize hwZ : World.setRow _ _ _ = wZ; have HZ : Hid (Rd w wZ (w.heap.size + 1) (w.heap.size + 1 + 1) X2 X2) := Lib.hid (by rw [← hwZ]; exact HR2.out.ans X2 HR2.out.dx); clear hwZ))
    refine bodyPost_ret (HZ.out.out.res1 HZ.out.dy rfl _ rfl) rfl ?_
    exact ⟨X2, rfl, by rw [← HX2.out, ← HX1.out]; exact ⟨Bs.empty _ _, fun _ => rfl, Nat.le_refl _, Nat.zero_le _, dok_zero, (Nat.zero_le 140737488355328 : (0 : Nat) ≤ 140737488355328), hs, by show _ ≤ (8 : Int) ∧ (8 : Int) ≤ _; omega, hN, hZ⟩, by rw [HBN.out, ← HX2.out, ← HX1.out]; unfold Rq.rc; simp [rqKS, rq0, dg0]; try rfl, HZ.out.le, by rw [← HX2.out, ← HX1.out]; simp [bareQ, rqKS, rq0]⟩

set_option maxRecDepth 100000 in
set_option maxHeartbeats 4000000 in
theorem own_out (x : Rq) (w : World) (hx : x.Fit w) (hk : x.k < 1 ∨ x.k > 8) :
    Calls Try.prog 31 #[x.v] w fun e w' => e = .returned (rqKS x.k x.s).v ∧ Below w.heap.size w w' := by
  obtain ⟨wA, hA, hm, hb, c0, c1, c34, c35, c36, c37⟩ := box_rec w x hx.dg.1
  have hsA : wA.heap.size = w.heap.size + 1 := by rw [← hA]; simp
  have HX := Lib.hid hx
  have HBX := Lib.hid fun W (hW : W.heap[w.heap.size]? = wA.heap[w.heap.size]?) => show Rm W w.heap.size x from Mx.keep hm hW
  have HB := Lib.hid hb
  have HSA := Lib.hid hsA
  have HNW : Hid (∀ Z : Obj, ((wA.alloc Z).alloc Z).heap[w.heap.size + 1 + 1]? = some Z) := Lib.hid fun Z => by rw [← hsA]; exact heap_alloc2_new _ _ _
  have HFT := Lib.hid fun W (hW : Below w.heap.size w W) => hx.later hW
  have HD := Lib.hid hx.dg
  have hs := hx.s
  have hN := hx.N
  have hZ := hx.Z
  unfold Rq.v
  obtain ⟨k, s, dg, nm, p, n, c, da, N, Z⟩ := x
  dsimp only at *
  generalize hM : mixC _ _ _ = M at *
  clear hM hx hm hb c34 c35 c36 c37
  go_enter Try.func31, Try.ntmps31
  go_upto_region 2 with (first
    | (refine wpList_build_is rfl 42 _ rfl (mixC (rqKS k s).a (rqKS k s).dg (rqKS k s).z) ?_ ?_; kernel_rfl)
    | (refine wpList_store_row rfl 42 _ _ rfl (w.heap.size + 1 + 1) _ rfl rfl 42 _ (HNW.out _) ((rqKS k s).sizeOf rfl) (Rq.sizes rq0 (rqKS k s) rfl rfl) (rqKS k s).one ?_; generalize hwS : World.setRow _ _ _ = wS))
  have HR0 : Hid (Rd w wS (w.heap.size + 1) (w.heap.size + 1 + 1) rq0 (rqKS k s)) := Lib.hid (by
    rw [← hwS]
    have h1 : Rd wA ((wA.alloc (.cells (mixC rq0.a rq0.dg rq0.z) 42)).alloc (.cells (mixC rq0.a rq0.dg rq0.z) 42)) wA.heap.size (wA.heap.size + 1) rq0 rq0 := Rd.start wA
    rw [HSA.out] at h1
    exact Rd.put ⟨h1.ne, by omega, by omega, h1.out, h1.own, below_step HB.out h1.le, h1.dy, h1.dx⟩ (rqKS k s) rfl)
  have HK0 : Hid (wS.heap[w.heap.size]? = wA.heap[w.heap.size]?) := Lib.hid (by rw [keep_row hwS _ (by omega), heap_alloc_old _ _ (by simp; rw [HSA.out]; omega), heap_alloc_old _ _ (by rw [HSA.out]; omega)])
  clear hwS c0 c1
  obtain ⟨e0, e1, _⟩ := (HBX.out wS HK0.out).cells HX.out.dg.1
  have n1 : (k == 1) = false := by simp; omega
  have n2 : (k == 2) = false := by simp; omega
  have n3 : (k == 3) = false := by simp; omega
  have n4 : (k == 4) = false := by simp; omega
  have n5 : (k == 5) = false := by simp; omega
  have n6 : (k == 6) = false := by simp; omega
  have n7 : (k == 7) = false := by simp; omega
  have n8 : (k == 8) = false := by simp; omega
  clear hk
  go_wp2_with (first
        | (refine wpList_ld rfl _ _ rfl _ rfl _ (HR0.out.own.load HR0.out.dx) ?_)
        | (refine wpList_store_row rfl 42 _ _ rfl (w.heap.size + 1) _ rfl rfl 42 _ HR0.out.out (Rq.sizeOf (rqKS k s) HR0.out.dx) (Rq.sizes rq0 (rqKS k s) rfl HR0.out.dx) (Rq.one (rqKS k s)) ?_; generalize hwZ : World.setRow _ _ _ = wZ; have HZ : Hid (Rd w wZ (w.heap.size + 1) (w.heap.size + 1 + 1) (rqKS k s) (rqKS k s)) := Lib.hid (by rw [← hwZ]; exact HR0.out.ans (rqKS k s) HR0.out.dx); clear hwZ))
  refine bodyPost_ret (HZ.out.out.res1 HZ.out.dy rfl _ rfl) rfl ?_
  exact ⟨rfl, HZ.out.le⟩
end Go.Proofs.Ytcjflabipkppfaa

namespace Go.Proofs.Ytcjflabipkppfaa
set_option linter.unusedVariables false
open Go.RowKit Go.Lib

def cSizeOk : Prop := ∀ (x : Rq) (w : World), x.Fit w → x.n ≤ 2097152 → Calls Try.prog 28 #[x.v] w fun e w' => e = .returned (.int .i64 ((makeN x.rc).length : Int)) ∧ Below w.heap.size w w'
end Go.Proofs.Ytcjflabipkppfaa

namespace Go.Proofs.Ytcjflabipkppfaa
set_option linter.unusedVariables false
open Go.RowKit Go.Lib

def cMakeOk : Prop := ∀ (x : Rq) (w : World), x.Fit w → x.n ≤ 2097152 → Calls Try.prog 19 #[x.v] w fun e w' => ∃ v, e = .returned (.tuple #[v, .int .i64 (rightN x.rc)]) ∧ Ob w' w.heap.size 5 v (makeN x.rc) ∧ Below w.heap.size w w'
end Go.Proofs.Ytcjflabipkppfaa

namespace Go.Proofs.Ytcjflabipkppfaa
set_option linter.unusedVariables false
open Go.RowKit Go.Lib

theorem rp_forth {zs : List Int} (hz : Byt zs) {a : Int} (h : rpE zs a = 0) :
    ∃ (m e : Nat), a = (m : Int) ∧ rpN zs a = (e : Int) ∧ m ≤ e ∧ e ≤ zs.length ∧ rightN (rpR zs a) = 0 ∧ makeN (rpR zs a) = (zs.drop m).take (e - m) := by
  have hR : rpR zs a = match readN (psF zs a).k (psF zs a).d with
    | none => rc0
    | some r => { r with s := (psF zs a).s } := by unfold rpR; rw [if_pos h]; try (cases readN (psF zs a).k (psF zs a).d <;> rfl)
  have hN : rpN zs a = (psF zs a).e := by unfold rpN; rw [if_pos h]
  unfold rpE at h
  by_cases hE : psE zs a = 0
  · simp only [hE, ne_eq, not_true, if_false] at h
    obtain ⟨m, n, hm, hmn, _, hdn, hk, hs, hdb, he, hf⟩ := ps_of hz hE
    cases hr : readN (psF zs a).k (psF zs a).d with
    | none => rw [hr] at h; simp at h
    | some r =>
      rw [hr] at h hR
      dsimp only at h hR
      obtain ⟨h1, h2, h3, _, _⟩ := rec_forth hdb hk hr h
      refine ⟨m, m + 21 + n, hm, by rw [hN, he]; omega, by omega, by omega, by rw [hR, rightN_s]; exact h, ?_⟩
      rw [hR]
      unfold makeN
      rw [rightN_s, if_pos h]
      dsimp only
      rw [show dataN { r with s := (psF zs a).s } = dataN r from rfl, h1, h2, hf, show m + 21 + n - m = n + 21 by omega]
  · rw [if_pos hE] at h
    exact absurd h hE
theorem rpR_da {zs : List Int} (hz : Byt zs) {a : Int} (h : rpE zs a = 0) : (rpR zs a).da.length ≤ zs.length := by
  have hR : rpR zs a = match readN (psF zs a).k (psF zs a).d with
    | none => rc0
    | some r => { r with s := (psF zs a).s } := by unfold rpR; rw [if_pos h]; try (cases readN (psF zs a).k (psF zs a).d <;> rfl)
  unfold rpE at h
  by_cases hE : psE zs a = 0
  · simp only [hE, ne_eq, not_true, if_false] at h
    obtain ⟨m, n, hm, hmn, _, hdn, hk, hs, hdb, he, hf⟩ := ps_of hz hE
    cases hr : readN (psF zs a).k (psF zs a).d with
    | none => rw [hr] at h; simp at h
    | some r =>
      rw [hr] at h hR
      dsimp only at h hR
      obtain ⟨h1, h2, h3, h4, _⟩ := rec_forth hdb hk hr h
      rw [hR]
      dsimp only
      have h5 := congrArg List.length h1
      unfold dataN at h5
      have h6 := rightN_k h
      have h7 := congrArg Rc.da h3
      unfold bareN at h7
      dsimp only at h7
      by_cases hk2 : r.k ≤ 2
      · rw [if_pos (by omega), List.length_append] at h5
        omega
      · rw [if_neg hk2] at h7
        rw [← h7]
        simp
  · rw [if_pos hE] at h
    exact absurd h hE
end Go.Proofs.Ytcjflabipkppfaa

namespace Go.Proofs.Ytcjflabipkppfaa
set_option linter.unusedVariables false
open Go.RowKit Go.Lib

def cParseOk : Prop := ∀ (p : Option Addr) (len cap : Nat) (zs : List Int) (a : Int) (w : World), Bs w p len zs → (p = none → cap = 0) → len ≤ cap → cap ≤ maxLen → len ≤ 2097152 → (-9223372036854775808 ≤ a ∧ a ≤ 9223372036854775807) →
    Calls Try.prog 22 #[.slice p len cap, .int .i64 a] w fun e w' => RpQ w zs a e w'
end Go.Proofs.Ytcjflabipkppfaa

namespace Go.Proofs.Ytcjflabipkppfaa
set_option linter.unusedVariables false
open Go.RowKit Go.Lib

def cWordOk : Prop := ∀ (x : Rq) (seg off len : Int) (w : World), x.Fit w → x.n ≤ 2097152 → Calls Try.prog 25 #[x.v, locV seg off len] w fun e w' => e = .returned (wordQ x seg off len).v ∧ Below w.heap.size w w'
end Go.Proofs.Ytcjflabipkppfaa
