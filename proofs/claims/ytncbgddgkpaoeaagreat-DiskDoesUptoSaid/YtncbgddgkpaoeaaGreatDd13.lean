/- Layer 11: rows of names, changes and numbers; a folder as a value, and as an argument -/
import Derived.Test.YtncbgddgkpaoeaaGreatDd2
import Derived.Test.YtncbgddgkpaoeaaGreatDd12
import Derived.Lib.SmallJoins
import Derived.Laws.ResultCell
set_option linter.unusedSimpArgs false
set_option linter.unusedVariables false
namespace Go.Proofs.YtncbgddgkpaoeaaGreat
set_option linter.unusedVariables false
open Go.RowKit Go.Lib Go.ChangeShapes Go.WideShapes Go.ChangeAt Go.Deep

theorem below_allocF {w0 w : World} (h : Below w0.heap.size w0 w) (o : Obj) : Below w0.heap.size w0 (w.alloc o) := h.alloc h.size o
theorem below_drewF {w0 w : World} (h : Below w0.heap.size w0 w) : Below w0.heap.size w0 w.drew := below_step h ((Below.refl _ _).drew)
theorem two_newF (w : World) (A B : Obj) : ((w.alloc A).alloc B).heap[w.heap.size + 1]? = some B := by
  have := heap_alloc_new (w.alloc A) B
  simpa using this

/-! ### three kinds of rows -/
def encN : Ec Nd where
  f x := [.string x.s, .int .i64 x.id]
  k := 2
  t := 75
  d := nd0
  len _ := rfl
  one x v hv := by
    simp only [List.mem_cons, List.not_mem_nil, or_false] at hv
    rcases hv with rfl | rfl <;> rfl
  pos := by decide
def encC : Ec Cg where
  f c := [.int .i64 c.k, .string c.a, .string c.b, .int .i64 c.id]
  k := 4
  t := 106
  d := cg0
  len _ := rfl
  one x v hv := by
    simp only [List.mem_cons, List.not_mem_nil, or_false] at hv
    rcases hv with rfl | rfl | rfl | rfl <;> rfl
  pos := by decide
def encI : Ec Int where
  f n := [.int .i64 n]
  k := 1
  t := 3
  d := 0
  len _ := rfl
  one x v hv := by
    simp only [List.mem_cons, List.not_mem_nil, or_false] at hv
    rcases hv with rfl; rfl
  pos := by decide
def nzero : Value := .agg #[.string ⟨#[]⟩, .int .i64 0]
def czero : Value := .agg #[.int .i64 0, .string ⟨#[]⟩, .string ⟨#[]⟩, .int .i64 0]
theorem infoN : (Tryz.prog.info? encN.t).map (fun i => (i.zero, i.size, i.bytes)) = some (some nzero, encN.k, 24) := by kernel_rfl
theorem infoC : (Tryz.prog.info? encC.t).map (fun i => (i.zero, i.size, i.bytes)) = some (some czero, encC.k, 48) := by kernel_rfl
theorem infoI : (Tryz.prog.info? encI.t).map (fun i => (i.zero, i.size, i.bytes)) = some (some (.int .i64 0), encI.k, 8) := by kernel_rfl

theorem Gs.nd {w : World} {p : Option Addr} {n : Nat} {L : List Nd} (h : Gs encN w p n L) (j : Nat) (hj : j < n) : ∃ b off, p = some ⟨b, off, none⟩ ∧
    w.cell? ⟨b, off + j * 2, none⟩ = some (.string (L.getD j nd0).s) ∧ w.cell? ⟨b, off + j * 2 + 1, none⟩ = some (.int .i64 (L.getD j nd0).id) := by
  obtain ⟨b, off, hp, hc⟩ := h.ptr j hj
  exact ⟨b, off, hp, hc 0 _ rfl, hc 1 _ rfl⟩
theorem Gs.cg {w : World} {p : Option Addr} {n : Nat} {L : List Cg} (h : Gs encC w p n L) (j : Nat) (hj : j < n) : ∃ b off, p = some ⟨b, off, none⟩ ∧
    w.cell? ⟨b, off + j * 4, none⟩ = some (.int .i64 (L.getD j cg0).k) ∧ w.cell? ⟨b, off + j * 4 + 1, none⟩ = some (.string (L.getD j cg0).a) ∧
    w.cell? ⟨b, off + j * 4 + 2, none⟩ = some (.string (L.getD j cg0).b) ∧ w.cell? ⟨b, off + j * 4 + 3, none⟩ = some (.int .i64 (L.getD j cg0).id) := by
  obtain ⟨b, off, hp, hc⟩ := h.ptr j hj
  exact ⟨b, off, hp, hc 0 _ rfl, hc 1 _ rfl, hc 2 _ rfl, hc 3 _ rfl⟩
theorem Gs.it {w : World} {p : Option Addr} {n : Nat} {L : List Int} (h : Gs encI w p n L) (j : Nat) (hj : j < n) : ∃ b off, p = some ⟨b, off, none⟩ ∧ w.cell? ⟨b, off + j, none⟩ = some (.int .i64 (L.getD j 0)) := by
  obtain ⟨b, off, hp, hc⟩ := h.ptr j hj
  have := hc 0 _ rfl
  rw [show encI.k = 1 from rfl, Nat.mul_one, Nat.add_zero] at this
  exact ⟨b, off, hp, this⟩

/-! ### changes -/
def Cg.v (c : Cg) : Value := .agg #[.int .i64 c.k, .string c.a, .string c.b, .int .i64 c.id]
/-- a change in a block of its own -/
def Cgw (w : World) (g : Nat) (c : Cg) : Prop := w.heap[g]? = some (.cells #[.int .i64 c.k, .string c.a, .string c.b, .int .i64 c.id] 106 (0, 0))
theorem Cgw.lt {w : World} {g : Nat} {c : Cg} (h : Cgw w g c) : g < w.heap.size := by
  unfold Cgw at h; exact (Array.getElem?_eq_some_iff.1 h).1
theorem Cgw.later {w w' : World} {g : Nat} {c : Cg} (h : Cgw w g c) (hb : Below w.heap.size w w') : Cgw w' g c := by
  have := h.lt
  unfold Cgw; rw [hb.block g this]; exact h
theorem Cgw.cells {w : World} {g : Nat} {k i : Int} {a b : ByteArray} (h : Cgw w g ⟨k, a, b, i⟩) : w.cell? ⟨g, 0, none⟩ = some (.int .i64 k) ∧ w.cell? ⟨g, 1, none⟩ = some (.string a) ∧ w.cell? ⟨g, 2, none⟩ = some (.string b) ∧ w.cell? ⟨g, 3, none⟩ = some (.int .i64 i) := by
  refine ⟨?_, ?_, ?_, ?_⟩ <;> (rw [cell_of_row _ _ _ _ _ _ h]; rfl)

/-! ### folders -/
/-- a folder's slices, and what they read as -/
structure Fo where
  p : Option Addr
  n : Nat
  c : Nat
  q : Option Addr
  m : Nat
  d : Nat
  L : List Nd
  M : List Cg
def Fo.v (x : Fo) : Value := .agg #[.slice x.p x.n x.c, .slice x.q x.m x.d]
def Fo.fd (x : Fo) : Fd := ⟨x.L, x.M⟩
def Fo.fit (w : World) (x : Fo) : Prop := Gs encN w x.p x.n x.L ∧ (x.p = none → x.c = 0) ∧ x.n ≤ x.c ∧ Gs encC w x.q x.m x.M ∧ (x.q = none → x.d = 0) ∧ x.m ≤ x.d
theorem Fo.fit.later {w w' : World} {x : Fo} (h : Fo.fit w x) (hb : Below w.heap.size w w') : Fo.fit w' x := ⟨h.1.later hb, h.2.1, h.2.2.1, h.2.2.2.1.later hb, h.2.2.2.2⟩
theorem Fo.len {w : World} {x : Fo} (h : Fo.fit w x) (ho : x.fd.ok) : x.n + x.m ≤ 1048576 ∧ x.L.length = x.n ∧ x.M.length = x.m := by
  have e1 := h.1.1
  have e2 := h.2.2.2.1.1
  have e3 := ho.2.2
  simp only [Fo.fd] at e3
  exact ⟨by omega, e1, e2⟩
/-- a block of two slices: no row of names, changes or numbers lies there -/
def Slf (w : World) (g : Nat) : Prop := ∃ p n c q m d t fr, w.heap[g]? = some (.cells #[.slice p n c, .slice q m d] t fr)
theorem Slf.no {w : World} {g j : Nat} {v : Value} (h : Slf w g) (hc : w.cell? ⟨g, j, none⟩ = some v) : ∃ p n c, v = .slice p n c := by
  obtain ⟨p, n, c, q, m, d, t, fr, hg⟩ := h
  rw [cell_of_row _ _ _ _ _ _ hg] at hc
  match j, hc with
  | 0, hc => exact ⟨p, n, c, by simpa using hc.symm⟩
  | 1, hc => exact ⟨q, m, d, by simpa using hc.symm⟩
  | j + 2, hc => simp at hc
def Ec.flatless {α : Type} (E : Ec α) : Prop := ∀ x u, (E.f x)[0]? = some u → ∀ p n c, u ≠ .slice p n c
theorem flatN : encN.flatless := fun x u h p n c e => by
  have : u = .string x.s := by simpa [encN] using h.symm
  rw [this] at e; cases e
theorem flatC : encC.flatless := fun x u h p n c e => by
  have : u = .int .i64 x.k := by simpa [encC] using h.symm
  rw [this] at e; cases e
theorem flatI : encI.flatless := fun x u h p n c e => by
  have : u = .int .i64 x := by simpa [encI] using h.symm
  rw [this] at e; cases e
theorem Gs.stored {α : Type} {E : Ec α} (hE : E.flatless) {w w' : World} {g : Nat} (hg : Slf w g) (hk : ∀ k, k ≠ g → w'.heap[k]? = w.heap[k]?) {p : Option Addr} {n : Nat} {L : List α} (h : Gs E w p n L) : Gs E w' p n L := by
  obtain ⟨h1, h3⟩ := h
  refine ⟨h1, ?_⟩
  rcases h3 with h0 | ⟨b, off, hp, hc⟩
  · exact Or.inl h0
  · refine Or.inr ⟨b, off, hp, fun j hj i u hu => ?_⟩
    have hne : b ≠ g := fun e => by
      subst e
      obtain ⟨u0, hu0⟩ := E.first (L.getD j E.d)
      have h5 := hc j hj 0 u0 hu0
      obtain ⟨p, n, c, hv⟩ := hg.no h5
      exact hE _ _ hu0 p n c hv
    rw [World.cell?_of_block (a := ⟨b, off + j * E.k + i, none⟩) (hk b hne)]
    exact hc j hj i u hu
theorem Fo.fit.stored {w w' : World} {g : Nat} (hg : Slf w g) (hk : ∀ k, k ≠ g → w'.heap[k]? = w.heap[k]?) {x : Fo} (h : Fo.fit w x) : Fo.fit w' x := ⟨h.1.stored flatN hg hk, h.2.1, h.2.2.1, h.2.2.2.1.stored flatC hg hk, h.2.2.2.2⟩
theorem cells2_storedF {w : World} {g : Nat} {a0 a1 : Value} {t : TypeId} (h : w.heap[g]? = some (.cells #[a0, a1] t (0, 0))) (v0 v1 : Value) :
    ((w.setCell ⟨g, 0, none⟩ v0).setCell ⟨g, 1, none⟩ v1).heap[g]? = some (.cells #[v0, v1] t (0, 0)) := by
  rw [heap_setCell_same _ g 1 _ t v1 (heap_setCell_same w g 0 _ t v0 h)]
  rfl
theorem stored2_keepF (w : World) (g : Nat) (v0 v1 : Value) : ∀ k, k ≠ g → ((w.setCell ⟨g, 0, none⟩ v0).setCell ⟨g, 1, none⟩ v1).heap[k]? = w.heap[k]? := fun k hk => by
  rw [heap_setCell_other _ ⟨g, 1, none⟩ k v1 hk, heap_setCell_other _ ⟨g, 0, none⟩ k v0 hk]
theorem stored1_keepF (w : World) (g j : Nat) (v : Value) : ∀ k, k ≠ g → (w.setCell ⟨g, j, none⟩ v).heap[k]? = w.heap[k]? := fun k hk => heap_setCell_other _ ⟨g, j, none⟩ k v hk
/-- a folder in a block of its own -/
def Fw (w : World) (g : Nat) (x : Fo) : Prop := w.heap[g]? = some (.cells #[.slice x.p x.n x.c, .slice x.q x.m x.d] 64 (0, 0))
theorem Fw.sl2 {w : World} {g : Nat} {x : Fo} (h : Fw w g x) : Slf w g := ⟨_, _, _, _, _, _, _, _, h⟩
theorem Fw.lt {w : World} {B : Nat} {x : Fo} (h : Fw w B x) : B < w.heap.size := by
  unfold Fw at h
  exact (Array.getElem?_eq_some_iff.1 h).1
theorem Fw.keep {w w' : World} {B : Nat} {x : Fo} (h : Fw w B x) (hb : Below (B + 1) w w') : Fw w' B x := by
  unfold Fw; rw [hb.block B (Nat.lt_succ_self B)]; exact h
theorem Fw.later {w w' : World} {B : Nat} {x : Fo} (h : Fw w B x) (hb : Below w.heap.size w w') : Fw w' B x := by
  have := h.lt
  unfold Fw; rw [hb.block B this]; exact h
theorem Fw.cells {w : World} {B : Nat} {p q : Option Addr} {n c m d : Nat} {L : List Nd} {M : List Cg} (h : Fw w B ⟨p, n, c, q, m, d, L, M⟩) : w.cell? ⟨B, 0, none⟩ = some (.slice p n c) ∧ w.cell? ⟨B, 1, none⟩ = some (.slice q m d) := by
  refine ⟨?_, ?_⟩ <;> (rw [cell_of_row _ _ _ _ _ _ h]; rfl)
theorem Fw.frozen {w : World} {B : Nat} {x : Fo} (h : Fw w B x) (j : Nat) : w.frozen? ⟨B, j, none⟩ = false := frozen_of_row w B j _ _ h
/-- the empty folder -/
def fo0 : Fo := ⟨none, 0, 0, none, 0, 0, [], []⟩
theorem fo0_fit (w : World) : Fo.fit w fo0 := ⟨Gs.empty _ _ _, fun _ => rfl, Nat.le_refl _, Gs.empty _ _ _, fun _ => rfl, Nat.le_refl _⟩
theorem sizeFo : (Tryz.prog.info? 64).map (·.size) = some 2 := by kernel_rfl
theorem Fw.results {fn : Func} {q : Tmp} {w : World} {g : Nat} {y : Fo} (hg : Fw w g y) (h : fn.results = #[.cell q 64]) (tmps : Array Value)
    (hp : tmps.getD q undef = .pointer (some ⟨g, 0, none⟩)) : (Go.results fn tmps).run Tryz.prog w = .ok y.v w := results_cell_row h tmps w g _ _ _ _ hp hg Tryz.underlying64 rfl sizeFo
theorem Fw.results_tmp {fn : Func} {p u : Tmp} {w : World} {g : Nat} {y : Fo} (hg : Fw w g y) (h : fn.results = #[.cell p 64, .tmp u]) (tmps : Array Value)
    (hp : tmps.getD p undef = .pointer (some ⟨g, 0, none⟩)) : (Go.results fn tmps).run Tryz.prog w = .ok (.tuple #[y.v, tmps.getD u undef]) w := by
  rw [results_cell_tmp h, hp]
  simp only [asAddr, Sem.run_pure, Result.andThen]
  have hr := run_loadVar_row (P := Tryz.prog) w g _ 64 _ _ _ hg Tryz.underlying64 rfl sizeFo
  rw [hr]
  rfl

/-! ### arguments -/
def ndSz (x : Nd) : Nat := x.s.size + 3
def cgSz (c : Cg) : Nat := c.a.size + c.b.size + 5
def ndI (x : Nd) : Prop := InI x.id
def cgI (c : Cg) : Prop := InI c.k ∧ InI c.id
theorem wfI {n : Int} (h : (Lit.int .i64 n).wf = true) : InI n := by have := wf_i64 h; exact this
set_option maxRecDepth 100000 in
theorem open_nd {H : Type} {enc : TypeId × Value → H} {W : World} {base : Nat} {held : Bool} (fuel : Nat) (cs : List Value) (x : DataW H × List MemPlace) (h : DataW.trod enc Tryz.prog W base (fun _ => true) held fuel encN.t cs = some x) :
    ∃ y : Nd, cs = encN.f y ∧ ndI y ∧ ndSz y ≤ Rows.uptoBulk x.1 := by
  obtain ⟨y0, y1, m, hx, hl, h0, h1⟩ := trod_struct2 Tryz.underlying75 h
  have ec : Tryz.prog.cellsOf 75 = 2 := by kernel_rfl
  rw [ec] at hl
  match cs, hl with
  | [v0, v1], _ =>
    have e0 : Tryz.prog.cellsOf 9 = 1 := by kernel_rfl
    have e1 : Tryz.prog.cellsOf 3 = 1 := by kernel_rfl
    simp only [e0, e1, List.drop_succ_cons, List.drop_zero, List.take_succ_cons, List.take_zero] at h0 h1
    obtain ⟨s, rfl, hs, hb⟩ := open_str' Tryz.underlying9 h0
    obtain ⟨o, ho, hy1, hw⟩ := DataW.trod_int Tryz.underlying3 h1
    simp only [List.cons.injEq, and_true] at ho
    subst ho
    refine ⟨⟨s, o⟩, rfl, wfI hw, ?_⟩
    subst hx
    simp only [Rows.uptoBulk, Rows.uptoBulkAll, hb, hy1, ndSz]
    omega
set_option maxRecDepth 100000 in
theorem open_cg {H : Type} {enc : TypeId × Value → H} {W : World} {base : Nat} {held : Bool} (fuel : Nat) (cs : List Value) (x : DataW H × List MemPlace) (h : DataW.trod enc Tryz.prog W base (fun _ => true) held fuel encC.t cs = some x) :
    ∃ y : Cg, cs = encC.f y ∧ cgI y ∧ cgSz y ≤ Rows.uptoBulk x.1 := by
  obtain ⟨y0, y1, y2, y3, m, hx, hl, h0, h1, h2, h3⟩ := Go.Joins.trod_struct4 Tryz.underlying106 h
  have ec : Tryz.prog.cellsOf 106 = 4 := by kernel_rfl
  rw [ec] at hl
  match cs, hl with
  | [v0, v1, v2, v3], _ =>
    have e0 : Tryz.prog.cellsOf 9 = 1 := by kernel_rfl
    have e1 : Tryz.prog.cellsOf 3 = 1 := by kernel_rfl
    simp only [e0, e1, List.drop_succ_cons, List.drop_zero, List.take_succ_cons, List.take_zero] at h0 h1 h2 h3
    obtain ⟨k, hk, hy0, hw0⟩ := DataW.trod_int Tryz.underlying3 h0
    obtain ⟨a, rfl, ha, hb1⟩ := open_str' Tryz.underlying9 h1
    obtain ⟨b, rfl, hb, hb2⟩ := open_str' Tryz.underlying9 h2
    obtain ⟨o, ho, hy3, hw3⟩ := DataW.trod_int Tryz.underlying3 h3
    simp only [List.cons.injEq, and_true] at hk ho
    subst hk ho
    refine ⟨⟨k, a, b, o⟩, rfl, ⟨wfI hw0, wfI hw3⟩, ?_⟩
    subst hx
    simp only [Rows.uptoBulk, Rows.uptoBulkAll, hb1, hb2, hy0, hy3, cgSz]
    omega
set_option maxRecDepth 100000 in
/-- A folder, opened. -/
theorem open_fol {H : Type} {enc : TypeId × Value → H} {W : World} {base : Nat} {held : Bool} {r : Reach} {b0 : Nat} {v : Value} {d : DataW H} {ps : List MemPlace} (hv : Value.okWide Tryz.prog W r b0 64 v)
    (h : DataW.Trod enc Tryz.prog W base (fun _ => true) held 64 v d ps) (hk : Rows.uptoBulk d ≤ 1048576) :
    ∃ x : Fo, v = x.v ∧ Fo.fit W x ∧ x.fd.ok ∧ x.n + x.m + 1 ≤ 1048576 := by
  obtain ⟨v0, v1, y0, y1, n, rfl, rfl, _, s0, s1⟩ := Joins.open_agg2 Tryz.underlying64 (by kernel_rfl) (by kernel_rfl) hv h
  have hsl0 : ∃ a1 len1 cap1, v0 = .slice a1 len1 cap1 := by
    rcases DataW.trod_slice Tryz.underlying61 s0 with ⟨hcs, _⟩ | ⟨a, len', cap', elems, rest, n, _, hcs, _⟩
    · simp only [List.cons.injEq, and_true] at hcs; exact ⟨_, _, _, hcs⟩
    · simp only [List.cons.injEq, and_true] at hcs; exact ⟨_, _, _, hcs⟩
  have hsl1 : ∃ a1 len1 cap1, v1 = .slice a1 len1 cap1 := by
    rcases DataW.trod_slice Tryz.underlying62 s1 with ⟨hcs, _⟩ | ⟨a, len', cap', elems, rest, n, _, hcs, _⟩
    · simp only [List.cons.injEq, and_true] at hcs; exact ⟨_, _, _, hcs⟩
    · simp only [List.cons.injEq, and_true] at hcs; exact ⟨_, _, _, hcs⟩
  obtain ⟨a0, len0, cap0, rfl⟩ := hsl0
  obtain ⟨a1, len1, cap1, rfl⟩ := hsl1
  obtain ⟨hl0, hm0, hp0, L, hL, hLo, hLs⟩ := open_gs encN Tryz.underlying61 (by kernel_rfl) ndSz ndI open_nd s0
  obtain ⟨hl1, hm1, hp1, M, hM, hMo, hMs⟩ := open_gs encC Tryz.underlying62 (by kernel_rfl) cgSz cgI open_cg s1
  have hb0 : Rows.uptoBulk (DataW.agg [y0.1, y1.1]) ≤ 1048576 := hk
  simp only [Rows.uptoBulk, Rows.uptoBulkAll] at hb0
  have hLn := sum_len (sz := ndSz) (fun x => by unfold ndSz; omega) L
  have hMn := sum_len (sz := cgSz) (fun x => by unfold cgSz; omega) M
  have hL1 := hL.1
  have hM1 := hM.1
  refine ⟨⟨a0, len0, cap0, a1, len1, cap1, L, M⟩, rfl, ⟨hL, hp0, hl0, hM, hp1, hl1⟩, ⟨fun x hx => ⟨?_, hLo x hx⟩, fun c hc => ⟨(hMo c hc).1, ?_, ?_, (hMo c hc).2⟩, ?_⟩, ?_⟩
  · have hx' : x ∈ L := hx
    have := sum_mem (List.mem_map_of_mem (f := ndSz) hx')
    have e : ndSz x = x.s.size + 3 := rfl
    omega
  · have hc' : c ∈ M := hc
    have := sum_mem (List.mem_map_of_mem (f := cgSz) hc')
    have e : cgSz c = c.a.size + c.b.size + 5 := rfl
    omega
  · have hc' : c ∈ M := hc
    have := sum_mem (List.mem_map_of_mem (f := cgSz) hc')
    have e : cgSz c = c.a.size + c.b.size + 5 := rfl
    omega
  · show L.length + M.length ≤ _
    omega
  · show len0 + len1 + 1 ≤ _
    omega
set_option maxRecDepth 100000 in
/-- A change, opened. -/
theorem open_chg {H : Type} {enc : TypeId × Value → H} {W : World} {base : Nat} {held : Bool} {r : Reach} {b0 : Nat} {v : Value} {d : DataW H} {ps : List MemPlace} (hv : Value.okWide Tryz.prog W r b0 106 v)
    (h : DataW.Trod enc Tryz.prog W base (fun _ => true) held 106 v d ps) (hk : Rows.uptoBulk d ≤ 1048576) : ∃ c : Cg, v = c.v ∧ c.ok := by
  obtain ⟨v0, v1, v2, v3, y0, y1, y2, y3, n, rfl, rfl, _, s0, s1, s2, s3⟩ := Joins.open_agg4 Tryz.underlying106 (by kernel_rfl) (by kernel_rfl) hv h
  obtain ⟨k, rfl, hw0⟩ := open_int' Tryz.underlying3 s0
  obtain ⟨a, rfl, ha, hb1⟩ := open_str' Tryz.underlying9 s1
  obtain ⟨b, rfl, hb, hb2⟩ := open_str' Tryz.underlying9 s2
  obtain ⟨i, rfl, hw3⟩ := open_int' Tryz.underlying3 s3
  have hb0 : Rows.uptoBulk (DataW.agg [y0.1, y1.1, y2.1, y3.1]) ≤ 1048576 := hk
  simp only [Rows.uptoBulk, Rows.uptoBulkAll] at hb0
  exact ⟨⟨k, a, b, i⟩, rfl, wfI hw0, by show a.size ≤ _; omega, by show b.size ≤ _; omega, wfI hw3⟩
end Go.Proofs.YtncbgddgkpaoeaaGreat
