/- Layer 22: a state of the reference as it lies in memory; The reference of layer 22: Keep. (gen_starg.py); The reference of layer 22: New. (gen_starh.py); The reference of layer 22: Is. (gen_stari.py); Layer 22: what the laws want of package state; Layer 22, the laws: lives, under what is said of package state; Layer 22: how much a state has behind so many words; Layer 22: a snapshot in a block, re -/
import Derived.Test.YtpfbfhigelbfcaaGreatSd16
set_option linter.unusedSimpArgs false
set_option linter.unusedVariables false
namespace Go.Proofs.YtpfbfhigelbfcaaGreat
open Go.RowKit Go.Lib
theorem Gw.own {α : Type} {E : Ec α} {W : World} {B : Nat} {q : Option Addr} {m d : Nat} {o : List α} (h : Gw E W B (.slice q m d) o) : ∀ b off, q = some ⟨b, off, none⟩ → B ≤ b := fun b off e => (Gw.own_lt h (by rw [e]; rfl)).1
/-- a row of entries: an old one, or one from block B on; what lies in it too -/
def EnR (W : World) (B : Nat) (p : Option Addr) (n : Nat) (L : List Ex) (v : Value) (D : List Pe) : Prop :=
 ∃ q m d o, v = .slice q m d ∧ peL o = D ∧ Gs encEn W q m o ∧ ((q = p ∧ m = n) ∨ ∀ b off, q = some ⟨b, off, none⟩ → B ≤ b) ∧ ∀ y ∈ o, y ∈ L ∨ dok y.e.dg ∧ Gw encI W B y.s y.e.ins
def TnR (W : World) (B : Nat) (p : Option Addr) (n : Nat) (L : List Tx) (v : Value) (D : List Pt) : Prop :=
 ∃ q m d o, v = .slice q m d ∧ ptL o = D ∧ Gs encTn W q m o ∧ ((q = p ∧ m = n) ∨ ∀ b off, q = some ⟨b, off, none⟩ → B ≤ b) ∧ ∀ y ∈ o, y ∈ L ∨ dok y.e.dg ∧ Gw encI W B y.s y.e.ins
def LoR (W : World) (B : Nat) (p : Option Addr) (n : Nat) (v : Value) (l : List (Int × Int)) : Prop :=
 ∃ q m d, v = .slice q m d ∧ Gs encLo W q m (ldL l) ∧ ((q = p ∧ m = n) ∨ ∀ b off, q = some ⟨b, off, none⟩ → B ≤ b)
theorem EnR.later {W V : World} {B : Nat} {p : Option Addr} {n : Nat} {L : List Ex} {v : Value} {D : List Pe} (h : EnR W B p n L v D) (hb : Below W.heap.size W V) : EnR V B p n L v D := by
 obtain ⟨q, m, d, o, h1, h2, h3, h4, h5⟩ := h
 exact ⟨q, m, d, o, h1, h2, h3.later hb, h4, fun y hy => (h5 y hy).imp id fun h => ⟨h.1, h.2.later hb⟩⟩
theorem TnR.later {W V : World} {B : Nat} {p : Option Addr} {n : Nat} {L : List Tx} {v : Value} {D : List Pt} (h : TnR W B p n L v D) (hb : Below W.heap.size W V) : TnR V B p n L v D := by
 obtain ⟨q, m, d, o, h1, h2, h3, h4, h5⟩ := h
 exact ⟨q, m, d, o, h1, h2, h3.later hb, h4, fun y hy => (h5 y hy).imp id fun h => ⟨h.1, h.2.later hb⟩⟩
theorem LoR.later {W V : World} {B : Nat} {p : Option Addr} {n : Nat} {v : Value} {l : List (Int × Int)} (h : LoR W B p n v l) (hb : Below W.heap.size W V) : LoR V B p n v l := by
 obtain ⟨q, m, d, h1, h2, h3⟩ := h
 exact ⟨q, m, d, h1, h2.later hb, h3⟩
theorem EnR.mono {W : World} {B B' : Nat} {p : Option Addr} {n : Nat} {L : List Ex} {v : Value} {D : List Pe} (h : EnR W B p n L v D) (hB : B' ≤ B) : EnR W B' p n L v D := by
 obtain ⟨q, m, d, o, h1, h2, h3, h4, h5⟩ := h
 exact ⟨q, m, d, o, h1, h2, h3, h4.imp id fun h b off e => Nat.le_trans hB (h b off e), fun y hy => (h5 y hy).imp id fun h => ⟨h.1, h.2.mono hB⟩⟩
theorem TnR.mono {W : World} {B B' : Nat} {p : Option Addr} {n : Nat} {L : List Tx} {v : Value} {D : List Pt} (h : TnR W B p n L v D) (hB : B' ≤ B) : TnR W B' p n L v D := by
 obtain ⟨q, m, d, o, h1, h2, h3, h4, h5⟩ := h
 exact ⟨q, m, d, o, h1, h2, h3, h4.imp id fun h b off e => Nat.le_trans hB (h b off e), fun y hy => (h5 y hy).imp id fun h => ⟨h.1, h.2.mono hB⟩⟩
theorem LoR.mono {W : World} {B B' : Nat} {p : Option Addr} {n : Nat} {v : Value} {l : List (Int × Int)} (h : LoR W B p n v l) (hB : B' ≤ B) : LoR W B' p n v l := by
 obtain ⟨q, m, d, h1, h2, h3⟩ := h
 exact ⟨q, m, d, h1, h2, h3.imp id fun h b off e => Nat.le_trans hB (h b off e)⟩
theorem LoR.old {W : World} {B : Nat} {p : Option Addr} {n c : Nat} {l : List (Int × Int)} (h : Gs encLo W p n (ldL l)) : LoR W B p n (.slice p n c) l := ⟨p, n, c, rfl, h, Or.inl ⟨rfl, rfl⟩⟩
theorem LoR.gw {W : World} {B : Nat} {p : Option Addr} {n : Nat} {v : Value} {l : List (Int × Int)} (h : Gw encLo W B v (ldL l)) : LoR W B p n v l := by
 obtain ⟨q, c, rfl, _⟩ := h.open
 exact ⟨q, _, c, rfl, h.gs, Or.inr h.own⟩
def SlQ (R : World → Value → Prop) (W : World) (e : Ending) (w' : World) : Prop := ∃ q m d, e = .returned (.slice q m d) ∧ R w' (.slice q m d) ∧ Below W.heap.size W w'
theorem AppQ.r {w w' : World} {p : Option Addr} {n c : Nat} {L : List Ex} {x : Wq} {e : Ending} (h : AppQ w p n c L x e w') {B : Nat} (hB : B ≤ w.heap.size) : SlQ (fun W v => EnR W B p n L v (applyE (peL L) x)) w e w' := by
 obtain ⟨q, m, d, o, h1, h2, h3, h4, h5, _, h6⟩ := h
 exact ⟨q, m, d, h1, EnR.mono ⟨q, m, d, o, rfl, h2, h3, h4, h5⟩ hB, h6⟩
theorem AppTQ.r {w w' : World} {p : Option Addr} {n c : Nat} {L : List Tx} {x : Wq} {e : Ending} (h : AppTQ w p n c L x e w') {B : Nat} (hB : B ≤ w.heap.size) : SlQ (fun W v => TnR W B p n L v (applyT (ptL L) x)) w e w' := by
 obtain ⟨q, m, d, o, h1, h2, h3, h4, h5, _, h6⟩ := h
 exact ⟨q, m, d, h1, TnR.mono ⟨q, m, d, o, rfl, h2, h3, h4, h5⟩ hB, h6⟩
theorem KepQ.r {w w' : World} {L : List Ex} {b : List Int} {e : Ending} (h : KepQ w L b e w') {B : Nat} (hB : B ≤ w.heap.size) : SlQ (fun W v => EnR W B none 0 [] v (keepR (peL L) b)) w e w' := by
 obtain ⟨v, o, h1, h2, h3, h4, h5⟩ := h
 obtain ⟨q, c, rfl, _⟩ := h3.open
 exact ⟨q, _, c, h1, EnR.mono ⟨q, _, c, o, rfl, h2, h3.gs, Or.inr h3.own, fun y hy => Or.inr (h4 y hy)⟩ hB, h5⟩
theorem KepTQ.r {w w' : World} {L : List Tx} {b : List Int} {e : Ending} (h : KepTQ w L b e w') {B : Nat} (hB : B ≤ w.heap.size) : SlQ (fun W v => TnR W B none 0 [] v (keepTs (ptL L) b)) w e w' := by
 obtain ⟨v, o, h1, h2, h3, h4, h5⟩ := h
 obtain ⟨q, c, rfl, _⟩ := h3.open
 exact ⟨q, _, c, h1, TnR.mono ⟨q, _, c, o, rfl, h2, h3.gs, Or.inr h3.own, fun y hy => Or.inr (h4 y hy)⟩ hB, h5⟩
theorem NewQ.r {w w' : World} {L : List Ex} {e : Ending} (h : NewQ w L e w') {B : Nat} (hB : B ≤ w.heap.size) : SlQ (fun W v => EnR W B none 0 L v (newE (peL L))) w e w' := by
 obtain ⟨v, o, h1, h2, h3, h4, h5⟩ := h
 obtain ⟨q, c, rfl, _⟩ := h3.open
 exact ⟨q, _, c, h1, EnR.mono ⟨q, _, c, o, rfl, h2, h3.gs, Or.inr h3.own, fun y hy => Or.inl (h4 y hy)⟩ hB, h5⟩
theorem NewTQ.r {w w' : World} {L : List Tx} {e : Ending} (h : NewTQ w L e w') {B : Nat} (hB : B ≤ w.heap.size) : SlQ (fun W v => TnR W B none 0 L v (newT (ptL L))) w e w' := by
 obtain ⟨v, o, h1, h2, h3, h4, h5⟩ := h
 obtain ⟨q, c, rfl, _⟩ := h3.open
 exact ⟨q, _, c, h1, TnR.mono ⟨q, _, c, o, rfl, h2, h3.gs, Or.inr h3.own, fun y hy => Or.inl (h4 y hy)⟩ hB, h5⟩
/-- block G holds a state -/
def Sg (W : World) (G : Nat) (a b c : Value) : Prop := W.heap[G]? = some (.cells #[a, b, c] 32 (0, 0))
theorem Sg.later {W V : World} {G : Nat} {a b c : Value} (h : Sg W G a b c) (hb : Below W.heap.size W V) : Sg V G a b c := obj_later h hb
theorem Sg.lt {W : World} {G : Nat} {a b c : Value} (h : Sg W G a b c) : G < W.heap.size := (Array.getElem?_eq_some_iff.1 h).1
theorem Sg.cells {W : World} {G : Nat} {a b c : Value} (h : Sg W G a b c) : W.cell? ⟨G, 0, none⟩ = some a ∧ W.cell? ⟨G, 1, none⟩ = some b ∧ W.cell? ⟨G, 2, none⟩ = some c :=
 ⟨cell_of_row _ _ 0 _ _ _ h, cell_of_row _ _ 1 _ _ _ h, cell_of_row _ _ 2 _ _ _ h⟩
theorem Sg.frozen {W : World} {G : Nat} {a b c : Value} (h : Sg W G a b c) (j : Nat) : W.frozen? ⟨G, j, none⟩ = false := frozen_of_row W G j _ _ h
theorem Sg.set2 {W : World} {G : Nat} {a b c : Value} (h : Sg W G a b c) (u : Value) : Sg (W.setCell ⟨G, 2, none⟩ u) G a b u := heap_setCell_same W G 2 _ _ _ h
theorem Sg.row {W : World} {G : Nat} {a b c a' b' c' : Value} (h : Sg W G a b c) : Sg (W.setRow G #[a', b', c']) G a' b' c' := setRow_heap _ _ _ _ _ _ h
theorem sizeSt : (Tryz.prog.info? 32).map (·.size) = some 3 := by kernel_rfl
theorem Sg.res1 {fn : Func} {p : Tmp} {w : World} {g : Nat} {a b c : Value} (hg : Sg w g a b c) (h : fn.results = #[.cell p 32]) (tmps : Array Value)
 (hp : tmps.getD p undef = .pointer (some ⟨g, 0, none⟩)) : (Go.results fn tmps).run Tryz.prog w = .ok (.agg #[a, b, c]) w :=
 results_cell_row h tmps w g _ _ _ _ hp hg Tryz.underlying32 rfl sizeSt
def Value.slc : Value → Bool
 | .slice _ _ _ => true
 | _ => false
theorem Gs.bySt {α : Type} {E : Ec α} {W V : World} {q : Option Addr} {m G : Nat} {L : List α} {a b c : Value} (h : Gs E W q m L) (hZ : Sg W G a b c) (ha : Value.slc a = true ∧ Value.slc b = true ∧ Value.slc c = true) (hE : ∀ x, ∃ u, (E.f x)[0]? = some u ∧ Value.slc u = false) (hk : ∀ b, b ≠ G → b < W.heap.size → V.heap[b]? = W.heap[b]?) : Gs E V q m L := by
 refine h.hold fun hm b1 off e => hk b1 (fun hb => ?_) (by subst e; exact Gs.block_lt h (by omega))
 subst hb
 obtain ⟨b2, off2, hp, hc⟩ := h.ptr 0 (by omega)
 rw [e] at hp
 simp only [Option.some.injEq, Addr.mk.injEq, and_true] at hp
 obtain ⟨rfl, rfl⟩ := hp
 obtain ⟨u, hu, hs⟩ := hE (L.getD 0 E.d)
 have h1 := hc 0 u hu
 have h2 : W.heap[b1]? = some (.cells #[a, b, c] 32 (0, 0)) := hZ
 simp only [World.cell?, h2] at h1
 generalize off + 0 * E.k + 0 = i at h1
 obtain ⟨ha, hb, hc⟩ := ha
 match i, h1 with
 | 0, h1 => simp at h1; subst h1; rw [ha] at hs; cases hs
 | 1, h1 => simp at h1; subst h1; rw [hb] at hs; cases hs
 | 2, h1 => simp at h1; subst h1; rw [hc] at hs; cases hs
 | k + 3, h1 => simp at h1
theorem Gw.bySt {α : Type} {E : Ec α} {W V : World} {B G : Nat} {v : Value} {L : List α} {a b c : Value} (h : Gw E W B v L) (hZ : Sg W G a b c) (hE : E.t ≠ 32) (hk : ∀ b, b ≠ G → b < W.heap.size → V.heap[b]? = W.heap[b]?) : Gw E V B v L := by
 obtain ⟨hl, h2⟩ := h
 refine ⟨hl, ?_⟩
 rcases h2 with h2 | ⟨b1, cap, cur, hv, hb, hgb, r⟩
 ·exact Or.inl h2
 ·refine Or.inr ⟨b1, cap, cur, hv, hb, ?_, r⟩
  rw [hk b1 (fun e => ?_) (Array.getElem?_eq_some_iff.1 hgb).1]
  ·exact hgb
  ·subst e
   have h2 : W.heap[b1]? = some (.cells #[a, b, c] 32 (0, 0)) := hZ
   rw [hgb] at h2
   simp only [Option.some.injEq, Obj.cells.injEq] at h2
   exact hE h2.2.1
theorem en_slc (x : Ex) : ∃ u, (encEn.f x)[0]? = some u ∧ Value.slc u = false := by
 have h := x.hd
 obtain ⟨l, hl⟩ : ∃ l, x.e.dg = l := ⟨_, rfl⟩
 show ∃ u, (mixL [] x.e.dg (x.e.t x.s))[0]? = some u ∧ _
 rw [hl] at h ⊢
 match l, h with
 | d :: l, _ => exact ⟨_, rfl, rfl⟩
theorem tn_slc (x : Tx) : ∃ u, (encTn.f x)[0]? = some u ∧ Value.slc u = false := ⟨_, rfl, rfl⟩
theorem lo_slc (x : Int × Int × Int) : ∃ u, (encLo.f x)[0]? = some u ∧ Value.slc u = false := ⟨_, rfl, rfl⟩
theorem EnR.bySt {W V : World} {B G : Nat} {p : Option Addr} {n : Nat} {L : List Ex} {v a b c : Value} {D : List Pe} (h : EnR W B p n L v D) (hZ : Sg W G a b c) (ha : Value.slc a = true ∧ Value.slc b = true ∧ Value.slc c = true) (hk : ∀ b, b ≠ G → b < W.heap.size → V.heap[b]? = W.heap[b]?) : EnR V B p n L v D := by
 obtain ⟨q, m, d, o, h1, h2, h3, h4, h5⟩ := h
 exact ⟨q, m, d, o, h1, h2, h3.bySt hZ ha en_slc hk, h4, fun y hy => (h5 y hy).imp id fun h => ⟨h.1, h.2.bySt hZ (by decide) hk⟩⟩
theorem TnR.bySt {W V : World} {B G : Nat} {p : Option Addr} {n : Nat} {L : List Tx} {v a b c : Value} {D : List Pt} (h : TnR W B p n L v D) (hZ : Sg W G a b c) (ha : Value.slc a = true ∧ Value.slc b = true ∧ Value.slc c = true) (hk : ∀ b, b ≠ G → b < W.heap.size → V.heap[b]? = W.heap[b]?) : TnR V B p n L v D := by
 obtain ⟨q, m, d, o, h1, h2, h3, h4, h5⟩ := h
 exact ⟨q, m, d, o, h1, h2, h3.bySt hZ ha tn_slc hk, h4, fun y hy => (h5 y hy).imp id fun h => ⟨h.1, h.2.bySt hZ (by decide) hk⟩⟩
theorem LoR.bySt {W V : World} {B G : Nat} {p : Option Addr} {n : Nat} {v a b c : Value} {l : List (Int × Int)} (h : LoR W B p n v l) (hZ : Sg W G a b c) (ha : Value.slc a = true ∧ Value.slc b = true ∧ Value.slc c = true) (hk : ∀ b, b ≠ G → b < W.heap.size → V.heap[b]? = W.heap[b]?) : LoR V B p n v l := by
 obtain ⟨q, m, d, h1, h2, h3⟩ := h
 exact ⟨q, m, d, h1, h2.bySt hZ ha lo_slc hk, h3⟩
theorem keep_cellS {W : World} {G o : Nat} {u : Value} : ∀ b, b ≠ G → b < W.heap.size → (W.setCell ⟨G, o, none⟩ u).heap[b]? = W.heap[b]? := fun b h _ => heap_setCell_other W ⟨G, o, none⟩ b u h
theorem keep_rowS {W : World} {G : Nat} {cs : Array Value} : ∀ b, b ≠ G → b < W.heap.size → (W.setRow G cs).heap[b]? = W.heap[b]? := fun b h _ => setRow_other _ _ _ _ h
/-- what a function of states answers -/
def StQ (w : World) (p q r : Option Addr) (n m l : Nat) (D : List Ex) (T : List Tx) (x : Ps) (e : Ending) (w' : World) : Prop :=
 ∃ a b c, e = .returned (.agg #[a, b, c]) ∧ EnR w' w.heap.size p n D a x.D ∧ TnR w' w.heap.size q m T b x.T ∧ LoR w' w.heap.size r l c x.L ∧ Below w.heap.size w w'
/-- amid Keep's loop: block G turns alone, and new ones come -/
structure KsI (w2 wc W : World) (G : Nat) (a b v : Value) (o : List (Int × Int)) : Prop where
 z : Sg W G a b v
 g : Gw encLo W wc.heap.size v (ldL o)
 c : Chg (fun b => b = G) wc W
 le : Below w2.heap.size w2 W
theorem KsI.put {w2 wc W V : World} {G : Nat} {a b v u : Value} {o o' : List (Int × Int)} (h : KsI w2 wc W G a b v o) (hB : Below wc.heap.size W V) (hg : Gw encLo V wc.heap.size u (ldL o')) (hG : G < wc.heap.size) (h2 : w2.heap.size ≤ G) (hu : ∀ b, u.ownBlock = some b → b ≠ G) : KsI w2 wc (V.setCell ⟨G, 2, none⟩ u) G a b u o' :=
 ⟨Sg.set2 (show Sg V G a b v from (hB.block G hG).trans h.z) u, hg.setOther hu,
  h.c.tr (S' := fun b => b = G ∨ wc.heap.size ≤ b) ⟨hB.os, hB.tape, hB.output, by rw [World.size_setCell]; exact hB.size, fun k hk hn => by
   rw [heap_setCell_other V ⟨G, 2, none⟩ k u (fun e => hn (Or.inl e))]
   exact hB.block k (Nat.lt_of_not_le fun h => hn (Or.inr h))⟩ (fun b hb => hb),
  (h.le.trans (hB.mono (Nat.le_trans h2 (Nat.le_of_lt hG)))).setCell h2 _⟩
set_option maxRecDepth 100000 in
set_option maxHeartbeats 8000000 in
theorem rkeep22_any (p q r p2 : Option Addr) (n m l c d cr n2 c2 : Nat) (D : List Ex) (T : List Tx) (L : List (Int × Int)) (bs : List Int) (w : World) (h : Gs encEn w p n D) (h' : Gs encTn w q m T) (hl : Gs encLo w r l (ldL L)) (hi : ∀ y ∈ D, Is w y.s y.e.ins) (hi' : ∀ y ∈ T, Is w y.s y.e.ins) (hk : ∀ y ∈ D, dok y.e.dg) (hk' : ∀ y ∈ T, dok y.e.dg) (hb : ∀ y ∈ D, y.e.ins.length ≤ 2097152) (hb' : ∀ y ∈ T, y.e.ins.length ≤ 2097152) (hs : Gs encI w p2 n2 bs) (hn : n ≤ 2097152) (hm : m ≤ 2097152) (hll : l ≤ 2097152) (hn2 : n2 ≤ 2097152) :
 Calls Tryz.prog 13 #[StV p q r n m l c d cr, .slice p2 n2 c2] w fun e w' => StQ w none none none 0 0 0 [] [] (keepS ⟨peL D, ptL T, L⟩ bs) e w' := by
 obtain ⟨w0, w2, g2, h0, h2, hg2, hB⟩ := box2 w #[.slice p n c, .slice q m d, .slice r l cr] #[.slice none 0 0, .slice none 0 0, .slice none 0 0] 32 32
 have HSG : Hid (Sg w2 w.heap.size (.slice p n c) (.slice q m d) (.slice r l cr)) := Lib.hid hB.a
 have HZR : Hid (Sg w2 g2 (.slice none 0 0) (.slice none 0 0) (.slice none 0 0)) := Lib.hid hB.z
 have HB := Lib.hid hB.le
 have HG2 : Hid (w.heap.size ≤ g2) := Lib.hid (by have := hB.lt; omega)
 have HG2L : Hid (g2 < w2.heap.size) := Lib.hid HZR.out.lt
 have HSS : Hid (∀ W, Below w2.heap.size w2 W → (fun W => W.cell? ⟨w.heap.size, 0, none⟩ = some (.slice p n c) ∧ W.cell? ⟨w.heap.size, 1, none⟩ = some (.slice q m d) ∧ W.cell? ⟨w.heap.size, 2, none⟩ = some (.slice r l cr) ∧ Below w2.heap.size w2 W) W) := Lib.hid fun W hW => by
  obtain ⟨a, b, c⟩ := (HSG.out.later hW).cells
  exact ⟨a, b, c, hW⟩
 have HL := Lib.hid (hl.later hB.le)
 have HLL : Hid (L.length = l) := Lib.hid (by rw [← ldL_length]; exact hl.len)
 have HIN := Lib.hid fun (y : Int) W (hW : Below w2.heap.size w2 W) => rin22_any p2 n2 c2 bs y W ((hs.later hB.le).later hW) hn2
 have HC1 : Hid (∀ W, Below w2.heap.size w2 W → Calls Tryz.prog 51 #[.slice p n c, .slice p2 n2 c2] W fun e w' => SlQ (fun V v => EnR V w2.heap.size none 0 [] v (keepR (peL D) bs)) W e w') := Lib.hid fun W hW => (rkeep20_any p n c D p2 n2 c2 bs W ((h.later hB.le).later hW) (fun y hy => ((hi y hy).later hB.le).later hW) hk hb ((hs.later hB.le).later hW) hn2 hn).mono fun e w' hq => hq.r hW.size
 have HC2 : Hid (∀ W, Below w2.heap.size w2 W → Calls Tryz.prog 52 #[.slice q m d, .slice p2 n2 c2] W fun e w' => SlQ (fun V v => TnR V w2.heap.size none 0 [] v (keepTs (ptL T) bs)) W e w') := Lib.hid fun W hW => (rkeep21_any q m d T p2 n2 c2 bs W ((h'.later hB.le).later hW) (fun y hy => ((hi' y hy).later hB.le).later hW) hk' hb' ((hs.later hB.le).later hW) hn2 hm).mono fun e w' hq => hq.r hW.size
 have hll' := hll
 unfold StV
 clear h h' hl hi hi' hk hk' hb hb' hB hs hll
 go_enter Tryz.func13, Tryz.ntmps13
 go_upto_region 1 with fail
 clear h0 h2 hg2
 go_cut [5] (fun g wx => ∃ (G : Nat) (q1 : Option Addr) (m1 d1 : Nat) (q2 : Option Addr) (m2 d2 : Nat), g = .pointer (some ⟨G, 0, none⟩) ∧ Hid (Sg wx G (.slice q1 m1 d1) (.slice q2 m2 d2) (.slice none 0 0)) ∧ Hid (EnR wx w2.heap.size none 0 [] (.slice q1 m1 d1) (keepR (peL D) bs)) ∧ Hid (TnR wx w2.heap.size none 0 [] (.slice q2 m2 d2) (keepTs (ptL T) bs)) ∧ Hid (w2.heap.size ≤ G) ∧ Hid (Below w2.heap.size w2 wx))
 case first =>
  refine wp_region_held_drew (S := (fun W => W.cell? ⟨w.heap.size, 0, none⟩ = some (.slice p n c) ∧ W.cell? ⟨w.heap.size, 1, none⟩ = some (.slice q m d) ∧ W.cell? ⟨w.heap.size, 2, none⟩ = some (.slice r l cr) ∧ Below w2.heap.size w2 W)) (by kernel_rfl) (HSS.out _ (Below.refl _ _).drew) (fun hHeld => ?_)
  refine tk 0 rfl ?_;(try simp only [PT]);refine tk 1 rfl ?_;(try simp only [PT]);refine tk 2 rfl ?_;(try simp only [PT]);refine tk 4 rfl ?_;(try simp only [PT]);refine tk 5 rfl ?_;(try simp only [PT]);refine tk 6 rfl ?_;(try simp only [PT])
  obtain ⟨y0, hy0⟩ : ∃ X, w2.drew = X := ⟨_, rfl⟩
  have HB0 : Hid (Below w2.heap.size w2 y0) := Lib.hid (by rw [← hy0]; exact (Below.refl _ _).drew)
  rw [hy0]
  clear hy0 hHeld
  have hHeld := HSS.out _ HB0.out
  refine wpAnyH_ready (rs := [3, 9]) (by kernel_rfl) (by simp) (all_at 3 rfl (fun K hK => ?o7) (all_at 9 rfl (fun K hK => ?o8) AllReadyH.nil))
  case o7 =>
   go_simp
   refine (HC1.out _ HB0.out).mono ?_
   rintro ex y9 ⟨q1, m1, d1, rfl, hr, hb⟩
   have HX9 : Hid (Below y0.heap.size y0 y9) := Lib.hid hb
   have HR9 := Lib.hid hr
   clear hr hb
   (try dsimp only)
   first
    | refine hK.out _ _ ?hS10 (fun hHeld => ?rr10)
    | (go_wp2_with fail; refine hK.out _ _ ?hS10 (fun hHeld => ?rr10))
   case hS10 => exact HSS.out _ (below_step HB0.out HX9.out)
   clear hK K
   (try simp only [PT])
   have FB11 := Lib.hid (below_step HB0.out HX9.out)
   clear hHeld
   have hHeld := HSS.out _ FB11.out
   refine wpAnyH_ready (rs := [7, 9]) (by kernel_rfl) (by simp) (all_at 7 rfl (fun K hK => ?o12) (all_at 9 rfl (fun K hK => ?o13) AllReadyH.nil))
   case o12 =>
    go_simp
    refine (HC2.out _ FB11.out).mono ?_
    rintro ex y14 ⟨q2, m2, d2, rfl, hr, hb⟩
    have HX14 : Hid (Below y9.heap.size y9 y14) := Lib.hid hb
    have HR14 := Lib.hid hr
    clear hr hb
    (try dsimp only)
    first
     | refine hK.out _ _ ?hS15 (fun hHeld => ?rr15)
     | (go_wp2_with fail; refine hK.out _ _ ?hS15 (fun hHeld => ?rr15))
    case hS15 => exact HSS.out _ (below_step FB11.out HX14.out)
    clear hK K
    (try simp only [PT])
    have FR116 := Lib.hid (HR9.out.later HX14.out)
    have FB16 := Lib.hid (below_step FB11.out HX14.out)
    clear hHeld
    have hHeld := HSS.out _ FB16.out
    refine tk 8 rfl ?_;(try simp only [PT])
    refine wpAnyH_ready (rs := [9]) (by kernel_rfl) (by simp) (all_at 9 rfl (fun K hK => ?o17) AllReadyH.nil)
    case o17 =>
     go_simp
     first
      | refine hK.out _ _ ?hS20 (fun hHeld => ?rr20)
      | (go_wp2_with fail; refine hK.out _ _ ?hS20 (fun hHeld => ?rr20))
     case hS20 => exact HSS.out _ (FB16.out.alloc FB16.out.size _)
     clear hK K
     (try simp only [PT])
     obtain ⟨y19, hy⟩ : ∃ X, y14.alloc (.cells #[.slice none 0 0, .slice none 0 0, .slice none 0 0] 32) = X := ⟨_, rfl⟩
     rw [hy]
     obtain ⟨G, hG⟩ : ∃ x, y14.heap.size = x := ⟨_, rfl⟩
     rw [hG]
     have HX19 : Hid (Below y14.heap.size y14 y19) := Lib.hid (by rw [← hy]; exact (Below.refl _ _).alloc (Nat.le_refl _) _)
     have HZ19 : Hid (Sg y19 G (.slice none 0 0) (.slice none 0 0) (.slice none 0 0)) := Lib.hid (by rw [← hG, ← hy]; exact heap_alloc_new _ _)
     have HGB : Hid (w2.heap.size ≤ G) := Lib.hid (by rw [← hG]; exact FB16.out.size)
     have FR121 := Lib.hid (FR116.out.later HX19.out)
     have FR221 := Lib.hid (HR14.out.later HX19.out)
     have FB21 := Lib.hid (below_step FB16.out HX19.out)
     clear hy hG
     clear hHeld
     have hHeld := HSS.out _ FB21.out
     refine ready_at 10 rfl (by kernel_rfl) (fun K hK => ?_)
     rw [if_pos (by rfl)]
     refine wp_store_row 32 _ _ rfl G #[.slice q1 m1 d1, .slice q2 m2 d2, .slice none 0 0] rfl rfl 32 _ HZ19.out sizeSt rfl (by simp [Value.oneCell']) ?_
     have HZ22 := Lib.hid (HZ19.out.row (a' := .slice q1 m1 d1) (b' := .slice q2 m2 d2) (c' := .slice none 0 0))
     have HP22 := Lib.hid (FR121.out.bySt HZ19.out ⟨rfl, rfl, rfl⟩ (keep_rowS (cs := #[.slice q1 m1 d1, .slice q2 m2 d2, .slice none 0 0])))
     have HQ22 := Lib.hid (FR221.out.bySt HZ19.out ⟨rfl, rfl, rfl⟩ (keep_rowS (cs := #[.slice q1 m1 d1, .slice q2 m2 d2, .slice none 0 0])))
     have HW22 := Lib.hid (below_setRow8 FB21.out G #[.slice q1 m1 d1, .slice q2 m2 d2, .slice none 0 0] HGB.out)
     refine hK.out _ _ ?hS24 (fun hHeld => ?rr24)
     case hS24 => exact HSS.out _ HW22.out
     clear hK K
     (try simp only [PT])
     refine wpAnyH_done (by kernel_rfl) ?_ _
     go_wp2_with fail
     go_meet
     exact ⟨G, q1, m1, d1, q2, m2, d2, rfl, HZ22, HP22, HQ22, HGB, HW22⟩
   case o13 =>
    go_simp
    first
     | refine hK.out _ _ ?hS26 (fun hHeld => ?rr26)
     | (go_wp2_with fail; refine hK.out _ _ ?hS26 (fun hHeld => ?rr26))
    case hS26 => exact HSS.out _ (FB11.out.alloc FB11.out.size _)
    clear hK K
    (try simp only [PT])
    obtain ⟨y25, hy⟩ : ∃ X, y9.alloc (.cells #[.slice none 0 0, .slice none 0 0, .slice none 0 0] 32) = X := ⟨_, rfl⟩
    rw [hy]
    obtain ⟨G, hG⟩ : ∃ x, y9.heap.size = x := ⟨_, rfl⟩
    rw [hG]
    have HX25 : Hid (Below y9.heap.size y9 y25) := Lib.hid (by rw [← hy]; exact (Below.refl _ _).alloc (Nat.le_refl _) _)
    have HZ25 : Hid (Sg y25 G (.slice none 0 0) (.slice none 0 0) (.slice none 0 0)) := Lib.hid (by rw [← hG, ← hy]; exact heap_alloc_new _ _)
    have HGB : Hid (w2.heap.size ≤ G) := Lib.hid (by rw [← hG]; exact FB11.out.size)
    have FR127 := Lib.hid (HR9.out.later HX25.out)
    have FB27 := Lib.hid (below_step FB11.out HX25.out)
    clear hy hG
    clear hHeld
    have hHeld := HSS.out _ FB27.out
    refine wpAnyH_ready (rs := [7]) (by kernel_rfl) (by simp) (all_at 7 rfl (fun K hK => ?o28) AllReadyH.nil)
    case o28 =>
     go_simp
     refine (HC2.out _ FB27.out).mono ?_
     rintro ex y29 ⟨q2, m2, d2, rfl, hr, hb⟩
     have HX29 : Hid (Below y25.heap.size y25 y29) := Lib.hid hb
     have HR29 := Lib.hid hr
     clear hr hb
     (try dsimp only)
     first
      | refine hK.out _ _ ?hS30 (fun hHeld => ?rr30)
      | (go_wp2_with fail; refine hK.out _ _ ?hS30 (fun hHeld => ?rr30))
     case hS30 => exact HSS.out _ (below_step FB27.out HX29.out)
     clear hK K
     (try simp only [PT])
     have FR131 := Lib.hid (FR127.out.later HX29.out)
     have FZ31 := Lib.hid (HZ25.out.later HX29.out)
     have FB31 := Lib.hid (below_step FB27.out HX29.out)
     clear hHeld
     have hHeld := HSS.out _ FB31.out
     refine tk 8 rfl ?_;(try simp only [PT])
     refine ready_at 10 rfl (by kernel_rfl) (fun K hK => ?_)
     rw [if_pos (by rfl)]
     refine wp_store_row 32 _ _ rfl G #[.slice q1 m1 d1, .slice q2 m2 d2, .slice none 0 0] rfl rfl 32 _ FZ31.out sizeSt rfl (by simp [Value.oneCell']) ?_
     have HZ32 := Lib.hid (FZ31.out.row (a' := .slice q1 m1 d1) (b' := .slice q2 m2 d2) (c' := .slice none 0 0))
     have HP32 := Lib.hid (FR131.out.bySt FZ31.out ⟨rfl, rfl, rfl⟩ (keep_rowS (cs := #[.slice q1 m1 d1, .slice q2 m2 d2, .slice none 0 0])))
     have HQ32 := Lib.hid (HR29.out.bySt FZ31.out ⟨rfl, rfl, rfl⟩ (keep_rowS (cs := #[.slice q1 m1 d1, .slice q2 m2 d2, .slice none 0 0])))
     have HW32 := Lib.hid (below_setRow8 FB31.out G #[.slice q1 m1 d1, .slice q2 m2 d2, .slice none 0 0] HGB.out)
     refine hK.out _ _ ?hS34 (fun hHeld => ?rr34)
     case hS34 => exact HSS.out _ HW32.out
     clear hK K
     (try simp only [PT])
     refine wpAnyH_done (by kernel_rfl) ?_ _
     go_wp2_with fail
     go_meet
     exact ⟨G, q1, m1, d1, q2, m2, d2, rfl, HZ32, HP32, HQ32, HGB, HW32⟩
  case o8 =>
   go_simp
   first
    | refine hK.out _ _ ?hS36 (fun hHeld => ?rr36)
    | (go_wp2_with fail; refine hK.out _ _ ?hS36 (fun hHeld => ?rr36))
   case hS36 => exact HSS.out _ (HB0.out.alloc HB0.out.size _)
   clear hK K
   (try simp only [PT])
   obtain ⟨y35, hy⟩ : ∃ X, y0.alloc (.cells #[.slice none 0 0, .slice none 0 0, .slice none 0 0] 32) = X := ⟨_, rfl⟩
   rw [hy]
   obtain ⟨G, hG⟩ : ∃ x, y0.heap.size = x := ⟨_, rfl⟩
   rw [hG]
   have HX35 : Hid (Below y0.heap.size y0 y35) := Lib.hid (by rw [← hy]; exact (Below.refl _ _).alloc (Nat.le_refl _) _)
   have HZ35 : Hid (Sg y35 G (.slice none 0 0) (.slice none 0 0) (.slice none 0 0)) := Lib.hid (by rw [← hG, ← hy]; exact heap_alloc_new _ _)
   have HGB : Hid (w2.heap.size ≤ G) := Lib.hid (by rw [← hG]; exact HB0.out.size)
   have FB37 := Lib.hid (below_step HB0.out HX35.out)
   clear hy hG
   clear hHeld
   have hHeld := HSS.out _ FB37.out
   refine wpAnyH_ready (rs := [3]) (by kernel_rfl) (by simp) (all_at 3 rfl (fun K hK => ?o38) AllReadyH.nil)
   case o38 =>
    go_simp
    refine (HC1.out _ FB37.out).mono ?_
    rintro ex y39 ⟨q1, m1, d1, rfl, hr, hb⟩
    have HX39 : Hid (Below y35.heap.size y35 y39) := Lib.hid hb
    have HR39 := Lib.hid hr
    clear hr hb
    (try dsimp only)
    first
     | refine hK.out _ _ ?hS40 (fun hHeld => ?rr40)
     | (go_wp2_with fail; refine hK.out _ _ ?hS40 (fun hHeld => ?rr40))
    case hS40 => exact HSS.out _ (below_step FB37.out HX39.out)
    clear hK K
    (try simp only [PT])
    have FZ41 := Lib.hid (HZ35.out.later HX39.out)
    have FB41 := Lib.hid (below_step FB37.out HX39.out)
    clear hHeld
    have hHeld := HSS.out _ FB41.out
    refine wpAnyH_ready (rs := [7]) (by kernel_rfl) (by simp) (all_at 7 rfl (fun K hK => ?o42) AllReadyH.nil)
    case o42 =>
     go_simp
     refine (HC2.out _ FB41.out).mono ?_
     rintro ex y43 ⟨q2, m2, d2, rfl, hr, hb⟩
     have HX43 : Hid (Below y39.heap.size y39 y43) := Lib.hid hb
     have HR43 := Lib.hid hr
     clear hr hb
     (try dsimp only)
     first
      | refine hK.out _ _ ?hS44 (fun hHeld => ?rr44)
      | (go_wp2_with fail; refine hK.out _ _ ?hS44 (fun hHeld => ?rr44))
     case hS44 => exact HSS.out _ (below_step FB41.out HX43.out)
     clear hK K
     (try simp only [PT])
     have FR145 := Lib.hid (HR39.out.later HX43.out)
     have FZ45 := Lib.hid (FZ41.out.later HX43.out)
     have FB45 := Lib.hid (below_step FB41.out HX43.out)
     clear hHeld
     have hHeld := HSS.out _ FB45.out
     refine tk 8 rfl ?_;(try simp only [PT])
     refine ready_at 10 rfl (by kernel_rfl) (fun K hK => ?_)
     rw [if_pos (by rfl)]
     refine wp_store_row 32 _ _ rfl G #[.slice q1 m1 d1, .slice q2 m2 d2, .slice none 0 0] rfl rfl 32 _ FZ45.out sizeSt rfl (by simp [Value.oneCell']) ?_
     have HZ46 := Lib.hid (FZ45.out.row (a' := .slice q1 m1 d1) (b' := .slice q2 m2 d2) (c' := .slice none 0 0))
     have HP46 := Lib.hid (FR145.out.bySt FZ45.out ⟨rfl, rfl, rfl⟩ (keep_rowS (cs := #[.slice q1 m1 d1, .slice q2 m2 d2, .slice none 0 0])))
     have HQ46 := Lib.hid (HR43.out.bySt FZ45.out ⟨rfl, rfl, rfl⟩ (keep_rowS (cs := #[.slice q1 m1 d1, .slice q2 m2 d2, .slice none 0 0])))
     have HW46 := Lib.hid (below_setRow8 FB45.out G #[.slice q1 m1 d1, .slice q2 m2 d2, .slice none 0 0] HGB.out)
     refine hK.out _ _ ?hS48 (fun hHeld => ?rr48)
     case hS48 => exact HSS.out _ HW46.out
     clear hK K
     (try simp only [PT])
     refine wpAnyH_done (by kernel_rfl) ?_ _
     go_wp2_with fail
     go_meet
     exact ⟨G, q1, m1, d1, q2, m2, d2, rfl, HZ46, HP46, HQ46, HGB, HW46⟩
 case rest =>
  obtain ⟨G, q1, m1, d1, q2, m2, d2, rfl, HSC, HR1, HR2, HGB, HBC⟩ := hcut
  have HNE : Hid (g2 ≠ G) := Lib.hid (Nat.ne_of_lt (Nat.lt_of_lt_of_le HG2L.out HGB.out))
  have HGW : Hid (G < wc.heap.size) := Lib.hid HSC.out.lt
  have HK0 : Hid (KsI w2 wc wc G (.slice q1 m1 d1) (.slice q2 m2 d2) (.slice none 0 0) []) := Lib.hid ⟨HSC.out, Gw.nil _ _ _, Chg.refl _ _, HBC.out⟩
  go_wp2
  go_loopw [6] (fun j wr => ∃ (k : Nat) (t : Option Addr) (a c' : Nat) (o : List (Int × Int)), k ≤ l ∧ j = .int .i64 (k : Int) ∧ Hid (o = (L.take k).filter fun x => decide (x.1 ∈ bs)) ∧ Hid (KsI w2 wc wr G (.slice q1 m1 d1) (.slice q2 m2 d2) (.slice t a c') o)) (fun j _ => l - (intOf j).toNat)
  case atStart => exact ⟨0, none, 0, 0, [], by omega, rfl, Lib.hid rfl, HK0⟩
  case round =>
   clear HK0
   obtain ⟨k, t, a, c', o, hkl, rfl, HO, HI⟩ := hrel
   obtain ⟨s0, s1, s2, _⟩ := HSS.out _ HI.out.le
   by_cases hlt : k < l
   ·obtain ⟨b1, off, rfl, y0, y1, y2⟩ := (HL.out.later HI.out.le).lo k hlt
    have hgd := ldL_getD L k (by rw [HLL.out]; exact hlt)
    rw [hgd] at y0 y1 y2
    have HTK : Hid ((L.take (k + 1)) = L.take k ++ [L.getD k (0, 0)]) := Lib.hid (by rw [List.take_succ_eq_append_getElem (by rw [HLL.out]; exact hlt), List.getD_eq_getElem?_getD, List.getElem?_eq_getElem (by rw [HLL.out]; exact hlt)]; rfl)
    have HRW : Hid (∀ W, Below w2.heap.size w2 W → W.cell? ⟨b1, off + k * 3, none⟩ = some (.int .i64 (L.getD k (0, 0)).1) ∧ W.cell? ⟨b1, off + k * 3 + 1, none⟩ = some (.int .i64 (L.getD k (0, 0)).2) ∧ W.cell? ⟨b1, off + k * 3 + 2, none⟩ = some (.int .i64 0)) := Lib.hid fun W hW => by
     obtain ⟨b2, off2, hp2, e0, e1, e2⟩ := (HL.out.later hW).lo k hlt
     simp only [Option.some.injEq, Addr.mk.injEq, and_true] at hp2
     obtain ⟨rfl, rfl⟩ := hp2
     rw [hgd] at e0 e1 e2
     exact ⟨e0, e1, e2⟩
    have hkn : (k : Int) < (l : Int) := by omega
    have hk0 : (0 : Int) ≤ (k : Int) := by omega
    dsimp only at y0 y1 y2
    clear hgd
    generalize L.getD k (0, 0) = y at *
    obtain ⟨ys, ya⟩ := y
    dsimp only at y0 y1 y2 HRW
    have HIN2 := Lib.hid (HIN.out ys wr HI.out.le)
    have HOL : Hid (o.length ≤ l) := Lib.hid (by rw [HO.out]; refine Nat.le_trans (List.length_filter_le _ _) ?_; rw [List.length_take]; omega)
    obtain ⟨z0, z1, z2⟩ := HI.out.z.cells
    by_cases hin : ys ∈ bs
    ·have HO2 : Hid (o ++ [(ys, ya)] = (L.take (k + 1)).filter fun x => decide (x.1 ∈ bs)) := Lib.hid (by rw [HTK.out, List.filter_append, List.filter_cons_of_pos (by simpa using hin), ← HO.out]; rfl)
     have hdec : decide (ys ∈ bs) = true := by simpa using hin
     rw [hdec] at HIN2
     clear hdec hin
     go_upto_region 6 with (go_at_call 53; refine HIN2.out.mono ?_; rintro e w4 ⟨rfl, h4⟩; have h5 := h4.symm; clear h4; subst h5)
     have HS3 : Hid (∀ W, Below wc.heap.size wr W → (fun W : World => W.cell? ⟨w.heap.size, 2, none⟩ = some (.slice (some ⟨b1, off, none⟩) l cr) ∧ W.cell? ⟨G, 2, none⟩ = some (.slice t a c') ∧ W.cell? ⟨b1, off + k * 3, none⟩ = some (.int .i64 ys) ∧ W.cell? ⟨b1, off + k * 3 + 1, none⟩ = some (.int .i64 ya) ∧ W.cell? ⟨b1, off + k * 3 + 2, none⟩ = some (.int .i64 0)) W) := Lib.hid fun W hW => by
      have hz := (show Sg W G _ _ _ from (hW.block G HGW.out).trans HI.out.z).cells
      have hle : Below w2.heap.size w2 W := HI.out.le.trans (hW.mono (Nat.le_trans HGB.out (Nat.le_of_lt HGW.out)))
      obtain ⟨_, _, s, _⟩ := HSS.out W hle
      obtain ⟨e0, e1, e2⟩ := HRW.out W hle
      exact ⟨s, hz.2.2, e0, e1, e2⟩
     have HS2 : Hid (∀ W, Below wr.heap.size wr W → (fun W : World => W.cell? ⟨w.heap.size, 2, none⟩ = some (.slice (some ⟨b1, off, none⟩) l cr) ∧ W.cell? ⟨G, 2, none⟩ = some (.slice t a c') ∧ W.cell? ⟨b1, off + k * 3, none⟩ = some (.int .i64 ys) ∧ W.cell? ⟨b1, off + k * 3 + 1, none⟩ = some (.int .i64 ya) ∧ W.cell? ⟨b1, off + k * 3 + 2, none⟩ = some (.int .i64 0)) W) := Lib.hid fun W hW => HS3.out W (hW.mono HI.out.c.size)
     have HG7 : Hid (Gw encLo (wr.alloc (.cells #[.int .i64 ys, .int .i64 ya, .int .i64 0] 97)).drew wc.heap.size (.slice t a c') (ldL o)) := Lib.hid (HI.out.g.later (((Below.refl _ _).alloc (Nat.le_refl _) _).drew))
     have HB7 : Hid (Below wc.heap.size wr (wr.alloc (.cells #[.int .i64 ys, .int .i64 ya, .int .i64 0] 97)).drew) := Lib.hid (((Below.refl _ _).alloc HI.out.c.size _).drew)
     have HZ7 := Lib.hid (Nat.le_trans HI.out.c.size HB7.out.size)
     have HN7 : Hid (Gs encLo (wr.alloc (.cells #[.int .i64 ys, .int .i64 ya, .int .i64 0] 97)).drew (some ⟨wr.heap.size, 0, none⟩) 1 [(ys, ya, 0)]) := Lib.hid ((Gs.oneLo wr ys ya 0).later (Below.refl _ _).drew)
     have HZY : Hid ((ldL o).length + 1 ≤ 2097216) := Lib.hid (by rw [ldL_length]; have := HOL.out; omega)
     clear s0 s1 s2 y0 y1 y2 z0 z1 z2
     refine wp_region_x (fun W : World => W.cell? ⟨w.heap.size, 2, none⟩ = some (.slice (some ⟨b1, off, none⟩) l cr) ∧ W.cell? ⟨G, 2, none⟩ = some (.slice t a c') ∧ W.cell? ⟨b1, off + k * 3, none⟩ = some (.int .i64 ys) ∧ W.cell? ⟨b1, off + k * 3 + 1, none⟩ = some (.int .i64 ya) ∧ W.cell? ⟨b1, off + k * 3 + 2, none⟩ = some (.int .i64 0)) 10 (by kernel_rfl) ?_
     have hHeld : (fun W : World => W.cell? ⟨w.heap.size, 2, none⟩ = some (.slice (some ⟨b1, off, none⟩) l cr) ∧ W.cell? ⟨G, 2, none⟩ = some (.slice t a c') ∧ W.cell? ⟨b1, off + k * 3, none⟩ = some (.int .i64 ys) ∧ W.cell? ⟨b1, off + k * 3 + 1, none⟩ = some (.int .i64 ya) ∧ W.cell? ⟨b1, off + k * 3 + 2, none⟩ = some (.int .i64 0)) _ := HS2.out _ (Below.refl _ _).drew
     refine tkx 0 rfl ?_;(try simp only [PT]);refine tkx 1 rfl ?_;(try simp only [PT]);refine tkx 2 rfl ?_;(try simp only [PT]);refine tkx 3 rfl ?_;(try simp only [PT]);refine tkx 4 rfl ?_;(try simp only [PT]);refine tkx 5 rfl ?_;(try simp only [PT]);refine tkx 6 rfl ?_;(try simp only [PT])
     refine readyx 7 rfl (by kernel_rfl) (fun K hK => ?_)
     go_simp
     first
      | refine hK.out _ _ ?hS1008 ?rest1008
      | (go_wp2_with fail; refine hK.out _ _ ?hS1008 ?rest1008)
     case hS1008 => exact HS3.out _ HB7.out
     clear hK K hHeld
     have hHeld : (fun W : World => W.cell? ⟨w.heap.size, 2, none⟩ = some (.slice (some ⟨b1, off, none⟩) l cr) ∧ W.cell? ⟨G, 2, none⟩ = some (.slice t a c') ∧ W.cell? ⟨b1, off + k * 3, none⟩ = some (.int .i64 ys) ∧ W.cell? ⟨b1, off + k * 3 + 1, none⟩ = some (.int .i64 ya) ∧ W.cell? ⟨b1, off + k * 3 + 2, none⟩ = some (.int .i64 0)) _ := HS3.out _ HB7.out
     (try simp only [PT])
     refine readyx 8 rfl (by kernel_rfl) (fun K hK => ?_)
     rw [if_pos (by rfl)]
     refine wp_append_gen encLo (.tmp 32) (.tmp 38) 25 rfl Tryz.underlying25 lozero 24 infoLo lozero_size (by decide) wc.heap.size _ _ rfl HG7.out _ 1 1 [(ys, ya, 0)] rfl HN7.out (fun h => by cases h) HZY.out HZ7.out ?_
     intro v8 w8 ho8 hg8
     have HG8 : Hid (Gw encLo w8 wc.heap.size v8 (ldL (o ++ [(ys, ya)]))) := Lib.hid (by rw [ldL_append]; exact ho8)
     have HB8 : Hid (Below wc.heap.size wr w8) := Lib.hid (HB7.out.grown hg8 HZ7.out (fun k hk => (Gw.own_lt HG7.out hk).1))
     have HSG8 : Hid (Sg w8 G (.slice q1 m1 d1) (.slice q2 m2 d2) (.slice t a c')) := Lib.hid ((HB8.out.block G HGW.out).trans HI.out.z)
     obtain ⟨p8, c8, hv8, _⟩ := ho8.open
     obtain ⟨m8, hm8⟩ : ∃ z, List.length (ldL o ++ [(ys, ya, 0)]) = z := ⟨_, rfl⟩
     rw [hm8] at hv8
     subst hv8
     have HS8 := Lib.hid (HS3.out w8 HB8.out)
     have zf8 := HSG8.out.frozen 2
     clear ho8 hg8 hm8
     refine hK.out _ _ ?hS1009 ?rest1009
     case hS1009 => exact HS8.out
     clear hK K hHeld
     have hHeld : (fun W : World => W.cell? ⟨w.heap.size, 2, none⟩ = some (.slice (some ⟨b1, off, none⟩) l cr) ∧ W.cell? ⟨G, 2, none⟩ = some (.slice t a c') ∧ W.cell? ⟨b1, off + k * 3, none⟩ = some (.int .i64 ys) ∧ W.cell? ⟨b1, off + k * 3 + 1, none⟩ = some (.int .i64 ya) ∧ W.cell? ⟨b1, off + k * 3 + 2, none⟩ = some (.int .i64 0)) _ := HS8.out
     (try simp only [PT])
     refine tkx 9 rfl ?_;(try simp only [PT])
     refine lastx 10 rfl (by kernel_rfl) (by kernel_rfl) (fun K hK => ?_)
     go_simp
     first
      | refine hK.out _ _ ?_
      | (go_wp2_with fail; refine hK.out _ _ ?_)
     clear hK K hHeld
     have HU8 : Hid (∀ b, (Value.slice p8 m8 c8).ownBlock = some b → b ≠ G) := Lib.hid (fun b hb => by have h1 := (Gw.own_lt HG8.out hb).1; have h2 := HGW.out; omega)
     have HK9 := Lib.hid (HI.out.put HB8.out HG8.out HGW.out HGB.out HU8.out)
     generalize hw9 : World.setCell _ _ _ = w9
     rw [hw9] at HK9
     clear hw9 zf8
     go_wp2
     exact ⟨⟨k + 1, p8, m8, c8, _, by omega, by go_num, HO2, HK9⟩, by simp [intOf] <;> omega⟩
    ·have HO2 : Hid (o = (L.take (k + 1)).filter fun x => decide (x.1 ∈ bs)) := Lib.hid (by rw [HTK.out, List.filter_append, List.filter_cons_of_neg (by simpa using hin), ← HO.out]; simp)
     have hdec : decide (ys ∈ bs) = false := by simpa using hin
     rw [hdec] at HIN2
     clear hdec hin
     go_wp2_with (go_at_call 53; refine HIN2.out.mono ?_; rintro e w4 ⟨rfl, h4⟩; have h5 := h4.symm; clear h4; subst h5)
     exact ⟨⟨k + 1, t, a, c', o, by omega, by go_num, HO2, HI⟩, by simp [intOf] <;> omega⟩
   ·obtain rfl : k = l := by omega
    have HLE : Hid (o = (keepS ⟨peL D, ptL T, L⟩ bs).L) := Lib.hid (by have h1 := HO.out; rwa [List.take_of_length_le (by rw [HLL.out]; exact Nat.le_refl _)] at h1)
    obtain ⟨z0, z1, z2⟩ := HI.out.z.cells
    have hkk : ∀ b, b ≠ G → b < wc.heap.size → wr.heap[b]? = wc.heap[b]? := fun b h1 h2 => HI.out.c.block b h2 h1
    have HR1b := Lib.hid (HR1.out.bySt HSC.out ⟨rfl, rfl, rfl⟩ hkk)
    have HR2b := Lib.hid (HR2.out.bySt HSC.out ⟨rfl, rfl, rfl⟩ hkk)
    have HR3b : Hid (LoR wr w2.heap.size none 0 (.slice t a c') o) := Lib.hid ((LoR.gw HI.out.g).mono HBC.out.size)
    have HZ9 : Hid (Sg wr g2 (.slice none 0 0) (.slice none 0 0) (.slice none 0 0)) := Lib.hid (HZR.out.later HI.out.le)
    have HBE : Hid (Below w.heap.size w wr) := Lib.hid (below_step HB.out HI.out.le)
    clear hkk
    go_wp2_with (refine wpList_store_row rfl 32 _ _ rfl g2 #[.slice q1 m1 d1, .slice q2 m2 d2, .slice t a c'] rfl rfl 32 _ HZ9.out sizeSt rfl (by simp [Value.oneCell']) ?_; generalize hw9 : World.setRow _ _ _ = w9)
    have HZA : Sg w9 g2 (.slice q1 m1 d1) (.slice q2 m2 d2) (.slice t a c') := by rw [← hw9]; exact HZ9.out.row
    refine bodyPost_ret (HZA.res1 rfl _ rfl) rfl ?_
    exact ⟨_, _, _, rfl, by rw [← hw9]; exact (HR1b.out.bySt HZ9.out ⟨rfl, rfl, rfl⟩ keep_rowS).mono HB.out.size, by rw [← hw9]; exact (HR2b.out.bySt HZ9.out ⟨rfl, rfl, rfl⟩ keep_rowS).mono HB.out.size, by rw [← hw9, ← HLE.out]; exact (HR3b.out.bySt HZ9.out ⟨rfl, rfl, rfl⟩ keep_rowS).mono HB.out.size, by rw [← hw9]; exact below_setRow8 HBE.out _ _ HG2.out⟩
theorem newL_step {l : List (Int × Int)} {k : Nat} (h : k < l.length) : newL (l.take (k + 1)) = loadP (newL (l.take k)) (l.getD k (0, 0)).1 (l.getD k (0, 0)).2 true := by
 unfold newL
 rw [List.take_succ_eq_append_getElem h, List.foldl_append, List.getD_eq_getElem?_getD, List.getElem?_eq_getElem h]
 rfl
theorem newL_len (l : List (Int × Int)) : (newL l).length ≤ l.length := by
 have h : ∀ (l o : List (Int × Int)), (l.foldl (fun o x => loadP o x.1 x.2 true) o).length ≤ o.length + l.length := by
  intro l
  induction l with
  | nil => intro o; exact Nat.le_refl _
  | cons x l ih =>
    intro o
    have h1 := ih (loadP o x.1 x.2 true)
    have h2 := loadP_length o x.1 x.2 true
    rw [List.foldl_cons, List.length_cons]
    omega
 have := h l []
 simpa [newL] using this
/-- loads, without what lives -/
def psL (K : List (Int × Int × Int)) : List (Int × Int) := K.map fun x => (x.1, x.2.1)
theorem psL_getD (K : List (Int × Int × Int)) (k : Nat) (h : k < K.length) : (psL K).getD k (0, 0) = ((K.getD k (0, 0, 0)).1, (K.getD k (0, 0, 0)).2.1) := by
 unfold psL
 rw [List.getD_eq_getElem?_getD, List.getElem?_map, List.getElem?_eq_getElem h, List.getD_eq_getElem?_getD, List.getElem?_eq_getElem h]
 rfl
theorem psL_length (K : List (Int × Int × Int)) : (psL K).length = K.length := List.length_map _
/-- a snapshot -/
def SnC (a b c e : Int) (u v x : Value) : Array Value := #[.int .i64 a, .int .i64 b, .int .i64 c, .int .u64 e, u, v, x]
set_option maxRecDepth 100000 in
set_option maxHeartbeats 8000000 in
theorem rnew22_any (p q r : Option Addr) (n m l c d cr : Nat) (sa sb sc se : Int) (D : List Ex) (T : List Tx) (K : List (Int × Int × Int)) (w : World) (h : Gs encEn w p n D) (h' : Gs encTn w q m T) (hl : Gs encLo w r l K) (hk : ∀ y ∈ D, dok y.e.dg) (hr : ∀ x ∈ K, -9223372036854775808 ≤ x.2.1 ∧ x.2.1 ≤ 9223372036854775807) (hn : n ≤ 2097152) (hm : m ≤ 2097152) (hll : l ≤ 2097152) :
 Calls Tryz.prog 9 #[.agg (SnC sa sb sc se (.slice p n c) (.slice q m d) (.slice r l cr))] w fun e w' => StQ w none none none 0 0 0 D T (newS (peL D) (ptL T) (psL K)) e w' := by
 obtain ⟨w0, w2, g2, h0, h2, hg2, hB⟩ := box2 w (SnC sa sb sc se (.slice p n c) (.slice q m d) (.slice r l cr)) #[.slice none 0 0, .slice none 0 0, .slice none 0 0] 27 32
 have HSG : Hid (w2.heap[w.heap.size]? = some (.cells (SnC sa sb sc se (.slice p n c) (.slice q m d) (.slice r l cr)) 27 (0, 0))) := Lib.hid hB.a
 have HZR : Hid (Sg w2 g2 (.slice none 0 0) (.slice none 0 0) (.slice none 0 0)) := Lib.hid hB.z
 have HB := Lib.hid hB.le
 have HG2 : Hid (w.heap.size ≤ g2) := Lib.hid (by have := hB.lt; omega)
 have HG2L : Hid (g2 < w2.heap.size) := Lib.hid HZR.out.lt
 have HSS : Hid (∀ W, Below w2.heap.size w2 W → (fun W => W.cell? ⟨w.heap.size, 4, none⟩ = some (.slice p n c) ∧ W.cell? ⟨w.heap.size, 5, none⟩ = some (.slice q m d) ∧ W.cell? ⟨w.heap.size, 6, none⟩ = some (.slice r l cr) ∧ Below w2.heap.size w2 W) W) := Lib.hid fun W hW => by
  have h1 := obj_later HSG.out hW
  exact ⟨cell_of_row _ _ 4 _ _ _ h1, cell_of_row _ _ 5 _ _ _ h1, cell_of_row _ _ 6 _ _ _ h1, hW⟩
 have HL := Lib.hid (hl.later hB.le)
 have HLL : Hid (K.length = l) := Lib.hid hl.len
 have HRG := Lib.hid hr
 have HC1 : Hid (∀ W, Below w2.heap.size w2 W → Calls Tryz.prog 42 #[.slice p n c] W fun e w' => SlQ (fun V v => EnR V w2.heap.size none 0 D v (newE (peL D))) W e w') := Lib.hid fun W hW => (rnew20_any p n c D W ((h.later hB.le).later hW) hk hn).mono fun e w' hq => hq.r hW.size
 have HC2 : Hid (∀ W, Below w2.heap.size w2 W → Calls Tryz.prog 43 #[.slice q m d] W fun e w' => SlQ (fun V v => TnR V w2.heap.size none 0 T v (newT (ptL T))) W e w') := Lib.hid fun W hW => (rnew21_any q m d T W ((h'.later hB.le).later hW) hm).mono fun e w' hq => hq.r hW.size
 have hll' := hll
 unfold SnC at h0 ⊢
 clear h h' hl hk hr hB hll
 go_enter Tryz.func9, Tryz.ntmps9
 go_upto_region 1 with fail
 clear h0 h2 hg2
 go_cut [3] (fun g wx => ∃ (G : Nat) (q1 : Option Addr) (m1 d1 : Nat) (q2 : Option Addr) (m2 d2 : Nat), g = .pointer (some ⟨G, 0, none⟩) ∧ Hid (Sg wx G (.slice q1 m1 d1) (.slice q2 m2 d2) (.slice none 0 0)) ∧ Hid (EnR wx w2.heap.size none 0 D (.slice q1 m1 d1) (newE (peL D))) ∧ Hid (TnR wx w2.heap.size none 0 T (.slice q2 m2 d2) (newT (ptL T))) ∧ Hid (w2.heap.size ≤ G) ∧ Hid (Below w2.heap.size w2 wx))
 case first =>
  refine wp_region_held_drew (S := (fun W => W.cell? ⟨w.heap.size, 4, none⟩ = some (.slice p n c) ∧ W.cell? ⟨w.heap.size, 5, none⟩ = some (.slice q m d) ∧ W.cell? ⟨w.heap.size, 6, none⟩ = some (.slice r l cr) ∧ Below w2.heap.size w2 W)) (by kernel_rfl) (HSS.out _ (Below.refl _ _).drew) (fun hHeld => ?_)
  refine tk 0 rfl ?_;(try simp only [PT]);refine tk 1 rfl ?_;(try simp only [PT]);refine tk 3 rfl ?_;(try simp only [PT]);refine tk 4 rfl ?_;(try simp only [PT])
  obtain ⟨y0, hy0⟩ : ∃ X, w2.drew = X := ⟨_, rfl⟩
  have HB0 : Hid (Below w2.heap.size w2 y0) := Lib.hid (by rw [← hy0]; exact (Below.refl _ _).drew)
  rw [hy0]
  clear hy0 hHeld
  have hHeld := HSS.out _ HB0.out
  refine wpAnyH_ready (rs := [2, 7]) (by kernel_rfl) (by simp) (all_at 2 rfl (fun K hK => ?o5) (all_at 7 rfl (fun K hK => ?o6) AllReadyH.nil))
  case o5 =>
   go_simp
   refine (HC1.out _ HB0.out).mono ?_
   rintro ex y7 ⟨q1, m1, d1, rfl, hr, hb⟩
   have HX7 : Hid (Below y0.heap.size y0 y7) := Lib.hid hb
   have HR7 := Lib.hid hr
   clear hr hb
   (try dsimp only)
   first
    | refine hK.out _ _ ?hS8 (fun hHeld => ?rr8)
    | (go_wp2_with fail; refine hK.out _ _ ?hS8 (fun hHeld => ?rr8))
   case hS8 => exact HSS.out _ (below_step HB0.out HX7.out)
   clear hK K
   (try simp only [PT])
   have FB9 := Lib.hid (below_step HB0.out HX7.out)
   clear hHeld
   have hHeld := HSS.out _ FB9.out
   refine wpAnyH_ready (rs := [5, 7]) (by kernel_rfl) (by simp) (all_at 5 rfl (fun K hK => ?o10) (all_at 7 rfl (fun K hK => ?o11) AllReadyH.nil))
   case o10 =>
    go_simp
    refine (HC2.out _ FB9.out).mono ?_
    rintro ex y12 ⟨q2, m2, d2, rfl, hr, hb⟩
    have HX12 : Hid (Below y7.heap.size y7 y12) := Lib.hid hb
    have HR12 := Lib.hid hr
    clear hr hb
    (try dsimp only)
    first
     | refine hK.out _ _ ?hS13 (fun hHeld => ?rr13)
     | (go_wp2_with fail; refine hK.out _ _ ?hS13 (fun hHeld => ?rr13))
    case hS13 => exact HSS.out _ (below_step FB9.out HX12.out)
    clear hK K
    (try simp only [PT])
    have FR114 := Lib.hid (HR7.out.later HX12.out)
    have FB14 := Lib.hid (below_step FB9.out HX12.out)
    clear hHeld
    have hHeld := HSS.out _ FB14.out
    refine tk 6 rfl ?_;(try simp only [PT])
    refine wpAnyH_ready (rs := [7]) (by kernel_rfl) (by simp) (all_at 7 rfl (fun K hK => ?o15) AllReadyH.nil)
    case o15 =>
     go_simp
     first
      | refine hK.out _ _ ?hS18 (fun hHeld => ?rr18)
      | (go_wp2_with fail; refine hK.out _ _ ?hS18 (fun hHeld => ?rr18))
     case hS18 => exact HSS.out _ (FB14.out.alloc FB14.out.size _)
     clear hK K
     (try simp only [PT])
     obtain ⟨y17, hy⟩ : ∃ X, y12.alloc (.cells #[.slice none 0 0, .slice none 0 0, .slice none 0 0] 32) = X := ⟨_, rfl⟩
     rw [hy]
     obtain ⟨G, hG⟩ : ∃ x, y12.heap.size = x := ⟨_, rfl⟩
     rw [hG]
     have HX17 : Hid (Below y12.heap.size y12 y17) := Lib.hid (by rw [← hy]; exact (Below.refl _ _).alloc (Nat.le_refl _) _)
     have HZ17 : Hid (Sg y17 G (.slice none 0 0) (.slice none 0 0) (.slice none 0 0)) := Lib.hid (by rw [← hG, ← hy]; exact heap_alloc_new _ _)
     have HGB : Hid (w2.heap.size ≤ G) := Lib.hid (by rw [← hG]; exact FB14.out.size)
     have FR119 := Lib.hid (FR114.out.later HX17.out)
     have FR219 := Lib.hid (HR12.out.later HX17.out)
     have FB19 := Lib.hid (below_step FB14.out HX17.out)
     clear hy hG
     clear hHeld
     have hHeld := HSS.out _ FB19.out
     refine ready_at 8 rfl (by kernel_rfl) (fun K hK => ?_)
     rw [if_pos (by rfl)]
     refine wp_store_row 32 _ _ rfl G #[.slice q1 m1 d1, .slice q2 m2 d2, .slice none 0 0] rfl rfl 32 _ HZ17.out sizeSt rfl (by simp [Value.oneCell']) ?_
     have HZ20 := Lib.hid (HZ17.out.row (a' := .slice q1 m1 d1) (b' := .slice q2 m2 d2) (c' := .slice none 0 0))
     have HP20 := Lib.hid (FR119.out.bySt HZ17.out ⟨rfl, rfl, rfl⟩ (keep_rowS (cs := #[.slice q1 m1 d1, .slice q2 m2 d2, .slice none 0 0])))
     have HQ20 := Lib.hid (FR219.out.bySt HZ17.out ⟨rfl, rfl, rfl⟩ (keep_rowS (cs := #[.slice q1 m1 d1, .slice q2 m2 d2, .slice none 0 0])))
     have HW20 := Lib.hid (below_setRow8 FB19.out G #[.slice q1 m1 d1, .slice q2 m2 d2, .slice none 0 0] HGB.out)
     refine hK.out _ _ ?hS22 (fun hHeld => ?rr22)
     case hS22 => exact HSS.out _ HW20.out
     clear hK K
     (try simp only [PT])
     refine wpAnyH_done (by kernel_rfl) ?_ _
     go_wp2_with fail
     go_meet
     exact ⟨G, q1, m1, d1, q2, m2, d2, rfl, HZ20, HP20, HQ20, HGB, HW20⟩
   case o11 =>
    go_simp
    first
     | refine hK.out _ _ ?hS24 (fun hHeld => ?rr24)
     | (go_wp2_with fail; refine hK.out _ _ ?hS24 (fun hHeld => ?rr24))
    case hS24 => exact HSS.out _ (FB9.out.alloc FB9.out.size _)
    clear hK K
    (try simp only [PT])
    obtain ⟨y23, hy⟩ : ∃ X, y7.alloc (.cells #[.slice none 0 0, .slice none 0 0, .slice none 0 0] 32) = X := ⟨_, rfl⟩
    rw [hy]
    obtain ⟨G, hG⟩ : ∃ x, y7.heap.size = x := ⟨_, rfl⟩
    rw [hG]
    have HX23 : Hid (Below y7.heap.size y7 y23) := Lib.hid (by rw [← hy]; exact (Below.refl _ _).alloc (Nat.le_refl _) _)
    have HZ23 : Hid (Sg y23 G (.slice none 0 0) (.slice none 0 0) (.slice none 0 0)) := Lib.hid (by rw [← hG, ← hy]; exact heap_alloc_new _ _)
    have HGB : Hid (w2.heap.size ≤ G) := Lib.hid (by rw [← hG]; exact FB9.out.size)
    have FR125 := Lib.hid (HR7.out.later HX23.out)
    have FB25 := Lib.hid (below_step FB9.out HX23.out)
    clear hy hG
    clear hHeld
    have hHeld := HSS.out _ FB25.out
    refine wpAnyH_ready (rs := [5]) (by kernel_rfl) (by simp) (all_at 5 rfl (fun K hK => ?o26) AllReadyH.nil)
    case o26 =>
     go_simp
     refine (HC2.out _ FB25.out).mono ?_
     rintro ex y27 ⟨q2, m2, d2, rfl, hr, hb⟩
     have HX27 : Hid (Below y23.heap.size y23 y27) := Lib.hid hb
     have HR27 := Lib.hid hr
     clear hr hb
     (try dsimp only)
     first
      | refine hK.out _ _ ?hS28 (fun hHeld => ?rr28)
      | (go_wp2_with fail; refine hK.out _ _ ?hS28 (fun hHeld => ?rr28))
     case hS28 => exact HSS.out _ (below_step FB25.out HX27.out)
     clear hK K
     (try simp only [PT])
     have FR129 := Lib.hid (FR125.out.later HX27.out)
     have FZ29 := Lib.hid (HZ23.out.later HX27.out)
     have FB29 := Lib.hid (below_step FB25.out HX27.out)
     clear hHeld
     have hHeld := HSS.out _ FB29.out
     refine tk 6 rfl ?_;(try simp only [PT])
     refine ready_at 8 rfl (by kernel_rfl) (fun K hK => ?_)
     rw [if_pos (by rfl)]
     refine wp_store_row 32 _ _ rfl G #[.slice q1 m1 d1, .slice q2 m2 d2, .slice none 0 0] rfl rfl 32 _ FZ29.out sizeSt rfl (by simp [Value.oneCell']) ?_
     have HZ30 := Lib.hid (FZ29.out.row (a' := .slice q1 m1 d1) (b' := .slice q2 m2 d2) (c' := .slice none 0 0))
     have HP30 := Lib.hid (FR129.out.bySt FZ29.out ⟨rfl, rfl, rfl⟩ (keep_rowS (cs := #[.slice q1 m1 d1, .slice q2 m2 d2, .slice none 0 0])))
     have HQ30 := Lib.hid (HR27.out.bySt FZ29.out ⟨rfl, rfl, rfl⟩ (keep_rowS (cs := #[.slice q1 m1 d1, .slice q2 m2 d2, .slice none 0 0])))
     have HW30 := Lib.hid (below_setRow8 FB29.out G #[.slice q1 m1 d1, .slice q2 m2 d2, .slice none 0 0] HGB.out)
     refine hK.out _ _ ?hS32 (fun hHeld => ?rr32)
     case hS32 => exact HSS.out _ HW30.out
     clear hK K
     (try simp only [PT])
     refine wpAnyH_done (by kernel_rfl) ?_ _
     go_wp2_with fail
     go_meet
     exact ⟨G, q1, m1, d1, q2, m2, d2, rfl, HZ30, HP30, HQ30, HGB, HW30⟩
  case o6 =>
   go_simp
   first
    | refine hK.out _ _ ?hS34 (fun hHeld => ?rr34)
    | (go_wp2_with fail; refine hK.out _ _ ?hS34 (fun hHeld => ?rr34))
   case hS34 => exact HSS.out _ (HB0.out.alloc HB0.out.size _)
   clear hK K
   (try simp only [PT])
   obtain ⟨y33, hy⟩ : ∃ X, y0.alloc (.cells #[.slice none 0 0, .slice none 0 0, .slice none 0 0] 32) = X := ⟨_, rfl⟩
   rw [hy]
   obtain ⟨G, hG⟩ : ∃ x, y0.heap.size = x := ⟨_, rfl⟩
   rw [hG]
   have HX33 : Hid (Below y0.heap.size y0 y33) := Lib.hid (by rw [← hy]; exact (Below.refl _ _).alloc (Nat.le_refl _) _)
   have HZ33 : Hid (Sg y33 G (.slice none 0 0) (.slice none 0 0) (.slice none 0 0)) := Lib.hid (by rw [← hG, ← hy]; exact heap_alloc_new _ _)
   have HGB : Hid (w2.heap.size ≤ G) := Lib.hid (by rw [← hG]; exact HB0.out.size)
   have FB35 := Lib.hid (below_step HB0.out HX33.out)
   clear hy hG
   clear hHeld
   have hHeld := HSS.out _ FB35.out
   refine wpAnyH_ready (rs := [2]) (by kernel_rfl) (by simp) (all_at 2 rfl (fun K hK => ?o36) AllReadyH.nil)
   case o36 =>
    go_simp
    refine (HC1.out _ FB35.out).mono ?_
    rintro ex y37 ⟨q1, m1, d1, rfl, hr, hb⟩
    have HX37 : Hid (Below y33.heap.size y33 y37) := Lib.hid hb
    have HR37 := Lib.hid hr
    clear hr hb
    (try dsimp only)
    first
     | refine hK.out _ _ ?hS38 (fun hHeld => ?rr38)
     | (go_wp2_with fail; refine hK.out _ _ ?hS38 (fun hHeld => ?rr38))
    case hS38 => exact HSS.out _ (below_step FB35.out HX37.out)
    clear hK K
    (try simp only [PT])
    have FZ39 := Lib.hid (HZ33.out.later HX37.out)
    have FB39 := Lib.hid (below_step FB35.out HX37.out)
    clear hHeld
    have hHeld := HSS.out _ FB39.out
    refine wpAnyH_ready (rs := [5]) (by kernel_rfl) (by simp) (all_at 5 rfl (fun K hK => ?o40) AllReadyH.nil)
    case o40 =>
     go_simp
     refine (HC2.out _ FB39.out).mono ?_
     rintro ex y41 ⟨q2, m2, d2, rfl, hr, hb⟩
     have HX41 : Hid (Below y37.heap.size y37 y41) := Lib.hid hb
     have HR41 := Lib.hid hr
     clear hr hb
     (try dsimp only)
     first
      | refine hK.out _ _ ?hS42 (fun hHeld => ?rr42)
      | (go_wp2_with fail; refine hK.out _ _ ?hS42 (fun hHeld => ?rr42))
     case hS42 => exact HSS.out _ (below_step FB39.out HX41.out)
     clear hK K
     (try simp only [PT])
     have FR143 := Lib.hid (HR37.out.later HX41.out)
     have FZ43 := Lib.hid (FZ39.out.later HX41.out)
     have FB43 := Lib.hid (below_step FB39.out HX41.out)
     clear hHeld
     have hHeld := HSS.out _ FB43.out
     refine tk 6 rfl ?_;(try simp only [PT])
     refine ready_at 8 rfl (by kernel_rfl) (fun K hK => ?_)
     rw [if_pos (by rfl)]
     refine wp_store_row 32 _ _ rfl G #[.slice q1 m1 d1, .slice q2 m2 d2, .slice none 0 0] rfl rfl 32 _ FZ43.out sizeSt rfl (by simp [Value.oneCell']) ?_
     have HZ44 := Lib.hid (FZ43.out.row (a' := .slice q1 m1 d1) (b' := .slice q2 m2 d2) (c' := .slice none 0 0))
     have HP44 := Lib.hid (FR143.out.bySt FZ43.out ⟨rfl, rfl, rfl⟩ (keep_rowS (cs := #[.slice q1 m1 d1, .slice q2 m2 d2, .slice none 0 0])))
     have HQ44 := Lib.hid (HR41.out.bySt FZ43.out ⟨rfl, rfl, rfl⟩ (keep_rowS (cs := #[.slice q1 m1 d1, .slice q2 m2 d2, .slice none 0 0])))
     have HW44 := Lib.hid (below_setRow8 FB43.out G #[.slice q1 m1 d1, .slice q2 m2 d2, .slice none 0 0] HGB.out)
     refine hK.out _ _ ?hS46 (fun hHeld => ?rr46)
     case hS46 => exact HSS.out _ HW44.out
     clear hK K
     (try simp only [PT])
     refine wpAnyH_done (by kernel_rfl) ?_ _
     go_wp2_with fail
     go_meet
     exact ⟨G, q1, m1, d1, q2, m2, d2, rfl, HZ44, HP44, HQ44, HGB, HW44⟩
 case rest =>
  obtain ⟨G, q1, m1, d1, q2, m2, d2, rfl, HSC, HR1, HR2, HGB, HBC⟩ := hcut
  have HNE : Hid (g2 ≠ G) := Lib.hid (Nat.ne_of_lt (Nat.lt_of_lt_of_le HG2L.out HGB.out))
  have HGW : Hid (G < wc.heap.size) := Lib.hid HSC.out.lt
  have HK0 : Hid (KsI w2 wc wc G (.slice q1 m1 d1) (.slice q2 m2 d2) (.slice none 0 0) []) := Lib.hid ⟨HSC.out, Gw.nil _ _ _, Chg.refl _ _, HBC.out⟩
  go_wp2
  go_loopw [4] (fun j wr => ∃ (k : Nat) (t : Option Addr) (a c' : Nat) (o : List (Int × Int)), k ≤ l ∧ j = .int .i64 (k : Int) ∧ Hid (o = newL ((psL K).take k)) ∧ Hid (KsI w2 wc wr G (.slice q1 m1 d1) (.slice q2 m2 d2) (.slice t a c') o)) (fun j _ => l - (intOf j).toNat)
  case atStart => exact ⟨0, none, 0, 0, [], by omega, rfl, Lib.hid rfl, HK0⟩
  case round =>
   clear HK0
   obtain ⟨k, t, a, c', o, hkl, rfl, HO, HI⟩ := hrel
   obtain ⟨s0, s1, s2, _⟩ := HSS.out _ HI.out.le
   by_cases hlt : k < l
   ·obtain ⟨b1, off, rfl, y0, y1, y2⟩ := (HL.out.later HI.out.le).lo k hlt
    have HST := Lib.hid (newL_step (l := psL K) (k := k) (by rw [psL_length, HLL.out]; exact hlt))
    rw [psL_getD K k (by rw [HLL.out]; exact hlt)] at HST
    have HRI : Hid (-9223372036854775808 ≤ (K.getD k (0, 0, 0)).2.1 ∧ (K.getD k (0, 0, 0)).2.1 ≤ 9223372036854775807) := Lib.hid (HRG.out _ (by rw [List.getD_eq_getElem?_getD, List.getElem?_eq_getElem (by rw [HLL.out]; exact hlt)]; exact List.getElem_mem _))
    have HRW : Hid (∀ W, Below w2.heap.size w2 W → W.cell? ⟨b1, off + k * 3, none⟩ = some (.int .i64 (K.getD k (0, 0, 0)).1) ∧ W.cell? ⟨b1, off + k * 3 + 1, none⟩ = some (.int .i64 (K.getD k (0, 0, 0)).2.1)) := Lib.hid fun W hW => by
     obtain ⟨b2, off2, hp2, e0, e1, e2⟩ := (HL.out.later hW).lo k hlt
     simp only [Option.some.injEq, Addr.mk.injEq, and_true] at hp2
     obtain ⟨rfl, rfl⟩ := hp2
     exact ⟨e0, e1⟩
    have hkn : (k : Int) < (l : Int) := by omega
    have hk0 : (0 : Int) ≤ (k : Int) := by omega
    dsimp only at HST
    clear y2
    generalize K.getD k (0, 0, 0) = y at *
    obtain ⟨ys, ya, yz⟩ := y
    dsimp only at y0 y1 HRW HRI HST
    have HOL : Hid (o.length ≤ l) := Lib.hid (by rw [HO.out]; refine Nat.le_trans (newL_len _) ?_; rw [List.length_take]; omega)
    obtain ⟨z0, z1, z2⟩ := HI.out.z.cells
    have HO2 : Hid (loadP o ys ya true = newL ((psL K).take (k + 1))) := Lib.hid (by rw [HST.out, HO.out])
    have HS3 : Hid (∀ W, Below wc.heap.size wr W → (fun W : World => W.cell? ⟨w.heap.size, 6, none⟩ = some (.slice (some ⟨b1, off, none⟩) l cr) ∧ W.cell? ⟨G, 2, none⟩ = some (.slice t a c') ∧ W.cell? ⟨b1, off + k * 3, none⟩ = some (.int .i64 ys) ∧ W.cell? ⟨b1, off + k * 3 + 1, none⟩ = some (.int .i64 ya)) W) := Lib.hid fun W hW => by
     have hz := (show Sg W G _ _ _ from (hW.block G HGW.out).trans HI.out.z).cells
     have hle : Below w2.heap.size w2 W := HI.out.le.trans (hW.mono (Nat.le_trans HGB.out (Nat.le_of_lt HGW.out)))
     obtain ⟨_, _, s, _⟩ := HSS.out W hle
     obtain ⟨e0, e1⟩ := HRW.out W hle
     exact ⟨s, hz.2.2, e0, e1⟩
    have HS2 : Hid (∀ W, Below wr.heap.size wr W → (fun W : World => W.cell? ⟨w.heap.size, 6, none⟩ = some (.slice (some ⟨b1, off, none⟩) l cr) ∧ W.cell? ⟨G, 2, none⟩ = some (.slice t a c') ∧ W.cell? ⟨b1, off + k * 3, none⟩ = some (.int .i64 ys) ∧ W.cell? ⟨b1, off + k * 3 + 1, none⟩ = some (.int .i64 ya)) W) := Lib.hid fun W hW => HS3.out W (hW.mono HI.out.c.size)
    have HLD : Hid (∀ W, Below wr.heap.size wr W → Calls Tryz.prog 44 #[.slice t a c', .int .i64 ys, .int .i64 ya, .bool true] W fun e w' => ∃ v, e = .returned v ∧ Gw encLo w' wr.heap.size v (ldL (loadP o ys ya true)) ∧ Below W.heap.size W w') := Lib.hid fun W hW => (rload22_any t a c' o ys ya true W ((HI.out.g.later hW).gs) (by rw [← HI.out.g.len, ldL_length]; have := HOL.out; omega) (fun _ => HRI.out)).mono fun e w' ⟨v, h1, h2, h3⟩ => ⟨v, h1, h2.mono hW.size, h3⟩
    clear y0 y1
    go_upto_region 5 with fail
    clear s0 s1 s2 z0 z1 z2
    refine wp_region_x (fun W : World => W.cell? ⟨w.heap.size, 6, none⟩ = some (.slice (some ⟨b1, off, none⟩) l cr) ∧ W.cell? ⟨G, 2, none⟩ = some (.slice t a c') ∧ W.cell? ⟨b1, off + k * 3, none⟩ = some (.int .i64 ys) ∧ W.cell? ⟨b1, off + k * 3 + 1, none⟩ = some (.int .i64 ya)) 16 (by kernel_rfl) ?_
    have hHeld : (fun W : World => W.cell? ⟨w.heap.size, 6, none⟩ = some (.slice (some ⟨b1, off, none⟩) l cr) ∧ W.cell? ⟨G, 2, none⟩ = some (.slice t a c') ∧ W.cell? ⟨b1, off + k * 3, none⟩ = some (.int .i64 ys) ∧ W.cell? ⟨b1, off + k * 3 + 1, none⟩ = some (.int .i64 ya)) _ := HS2.out _ (Below.refl _ _).drew
    refine tkx 0 rfl ?_;(try simp only [PT]);refine tkx 1 rfl ?_;(try simp only [PT]);refine tkx 2 rfl ?_;(try simp only [PT]);refine tkx 3 rfl ?_;(try simp only [PT]);refine tkx 4 rfl ?_;(try simp only [PT]);refine tkx 5 rfl ?_;(try simp only [PT]);refine tkx 6 rfl ?_;(try simp only [PT]);refine tkx 7 rfl ?_;(try simp only [PT]);refine tkx 8 rfl ?_;(try simp only [PT]);refine tkx 9 rfl ?_;(try simp only [PT]);refine tkx 10 rfl ?_;(try simp only [PT]);refine tkx 11 rfl ?_;(try simp only [PT]);refine tkx 12 rfl ?_;(try simp only [PT]);refine tkx 13 rfl ?_;(try simp only [PT])
    refine readyx 14 rfl (by kernel_rfl) (fun K hK => ?_)
    go_simp
    refine (HLD.out _ (Below.refl _ _).drew).mono ?_
    rintro e w8 ⟨v8, rfl, hg8, hb8⟩
    have HG8 : Hid (Gw encLo w8 wc.heap.size v8 (ldL (loadP o ys ya true))) := Lib.hid (hg8.mono HI.out.c.size)
    have HB8 : Hid (Below wc.heap.size wr w8) := Lib.hid (((Below.refl wr.heap.size wr).drew.trans hb8).mono HI.out.c.size)
    have HSG8 : Hid (Sg w8 G (.slice q1 m1 d1) (.slice q2 m2 d2) (.slice t a c')) := Lib.hid ((HB8.out.block G HGW.out).trans HI.out.z)
    obtain ⟨p8, c8, hv8, _⟩ := hg8.open
    obtain ⟨m8, hm8⟩ : ∃ z, List.length (ldL (loadP o ys ya true)) = z := ⟨_, rfl⟩
    rw [hm8] at hv8
    subst hv8
    have HS8 := Lib.hid (HS3.out w8 HB8.out)
    have zf8 := HSG8.out.frozen 2
    clear hg8 hb8 hm8
    (try dsimp only)
    first
     | refine hK.out _ _ ?hS1015 ?rest1015
     | (go_wp2_with fail; refine hK.out _ _ ?hS1015 ?rest1015)
    case hS1015 => exact HS8.out
    clear hK K hHeld
    have hHeld : (fun W : World => W.cell? ⟨w.heap.size, 6, none⟩ = some (.slice (some ⟨b1, off, none⟩) l cr) ∧ W.cell? ⟨G, 2, none⟩ = some (.slice t a c') ∧ W.cell? ⟨b1, off + k * 3, none⟩ = some (.int .i64 ys) ∧ W.cell? ⟨b1, off + k * 3 + 1, none⟩ = some (.int .i64 ya)) _ := HS8.out
    (try simp only [PT])
    refine tkx 15 rfl ?_;(try simp only [PT])
    refine lastx 16 rfl (by kernel_rfl) (by kernel_rfl) (fun K hK => ?_)
    go_simp
    first
     | refine hK.out _ _ ?_
     | (go_wp2_with fail; refine hK.out _ _ ?_)
    clear hK K hHeld
    have HU8 : Hid (∀ b, (Value.slice p8 m8 c8).ownBlock = some b → b ≠ G) := Lib.hid (fun b hb => by have h1 := (Gw.own_lt HG8.out hb).1; have h2 := HGW.out; omega)
    have HK9 := Lib.hid (HI.out.put HB8.out HG8.out HGW.out HGB.out HU8.out)
    generalize hw9 : World.setCell _ _ _ = w9
    rw [hw9] at HK9
    clear hw9 zf8
    go_wp2
    exact ⟨⟨k + 1, p8, m8, c8, _, by omega, by go_num, HO2, HK9⟩, by simp [intOf] <;> omega⟩
   ·obtain rfl : k = l := by omega
    have HLE : Hid (o = (newS (peL D) (ptL T) (psL K)).L) := Lib.hid (by have h1 := HO.out; rwa [List.take_of_length_le (by rw [psL_length, HLL.out]; exact Nat.le_refl _)] at h1)
    obtain ⟨z0, z1, z2⟩ := HI.out.z.cells
    have hkk : ∀ b, b ≠ G → b < wc.heap.size → wr.heap[b]? = wc.heap[b]? := fun b h1 h2 => HI.out.c.block b h2 h1
    have HR1b := Lib.hid (HR1.out.bySt HSC.out ⟨rfl, rfl, rfl⟩ hkk)
    have HR2b := Lib.hid (HR2.out.bySt HSC.out ⟨rfl, rfl, rfl⟩ hkk)
    have HR3b : Hid (LoR wr w2.heap.size none 0 (.slice t a c') o) := Lib.hid ((LoR.gw HI.out.g).mono HBC.out.size)
    have HZ9 : Hid (Sg wr g2 (.slice none 0 0) (.slice none 0 0) (.slice none 0 0)) := Lib.hid (HZR.out.later HI.out.le)
    have HBE : Hid (Below w.heap.size w wr) := Lib.hid (below_step HB.out HI.out.le)
    clear hkk
    go_wp2_with (refine wpList_store_row rfl 32 _ _ rfl g2 #[.slice q1 m1 d1, .slice q2 m2 d2, .slice t a c'] rfl rfl 32 _ HZ9.out sizeSt rfl (by simp [Value.oneCell']) ?_; generalize hw9 : World.setRow _ _ _ = w9)
    have HZA : Sg w9 g2 (.slice q1 m1 d1) (.slice q2 m2 d2) (.slice t a c') := by rw [← hw9]; exact HZ9.out.row
    refine bodyPost_ret (HZA.res1 rfl _ rfl) rfl ?_
    exact ⟨_, _, _, rfl, by rw [← hw9]; exact (HR1b.out.bySt HZ9.out ⟨rfl, rfl, rfl⟩ keep_rowS).mono HB.out.size, by rw [← hw9]; exact (HR2b.out.bySt HZ9.out ⟨rfl, rfl, rfl⟩ keep_rowS).mono HB.out.size, by rw [← hw9, ← HLE.out]; exact (HR3b.out.bySt HZ9.out ⟨rfl, rfl, rfl⟩ keep_rowS).mono HB.out.size, by rw [← hw9]; exact below_setRow8 HBE.out _ _ HG2.out⟩
set_option maxRecDepth 100000 in
set_option maxHeartbeats 8000000 in
theorem ris22_any (p q r p2 q2 r2 : Option Addr) (n m l c d cr n2 m2 l2 c2 d2 cr2 : Nat) (sa sb sc se : Int) (X D : List Ex) (Y T : List Tx) (K : List (Int × Int × Int)) (L : List (Int × Int)) (w : World) (h : Gs encEn w p n X) (h' : Gs encTn w q m Y) (hl : Gs encLo w r l K) (k : Gs encEn w p2 n2 D) (k' : Gs encTn w q2 m2 T) (kl : Gs encLo w r2 l2 (ldL L)) (e1 : peL X = peL D) (e2 : ptL Y = ptL T) (e3 : K = loadsP ⟨peL D, ptL T, L⟩)
 (i1 : ∀ x ∈ X, Is w x.s x.e.ins) (i2 : ∀ x ∈ D, Is w x.s x.e.ins) (i3 : ∀ x ∈ Y, Is w x.s x.e.ins) (i4 : ∀ x ∈ T, Is w x.s x.e.ins) (k1 : ∀ x ∈ X, dok x.e.dg) (k3 : ∀ x ∈ Y, dok x.e.dg) (b1 : ∀ x ∈ X, x.e.ins.length ≤ 2097152) (b2 : ∀ x ∈ D, x.e.ins.length ≤ 2097152) (b3 : ∀ x ∈ Y, x.e.ins.length ≤ 2097152) (b4 : ∀ x ∈ T, x.e.ins.length ≤ 2097152) (hn : n2 + m2 ≤ 2097152) (hll : l2 ≤ 2097152) :
 Calls Tryz.prog 14 #[.agg (SnC sa sb sc se (.slice p n c) (.slice q m d) (.slice r l cr)), StV p2 q2 r2 n2 m2 l2 c2 d2 cr2] w fun e w' => e = .returned (.bool true) ∧ Below w.heap.size w w' := by
 have hn1 : n ≤ 2097152 := by rw [← h.len, ← peL_length, e1, peL_length, k.len]; omega
 have hm1 : m ≤ 2097152 := by rw [← h'.len, ← ptL_length, e2, ptL_length, k'.len]; omega
 have hl1 : l ≤ 2097152 := by rw [← hl.len, e3]; unfold loadsP; rw [List.length_map]; show L.length ≤ 2097152; have := kl.len; rw [ldL_length] at this; omega
 obtain ⟨w0, w2, g2, h0, h2, hg2, hB⟩ := box2 w (SnC sa sb sc se (.slice p n c) (.slice q m d) (.slice r l cr)) #[.slice p2 n2 c2, .slice q2 m2 d2, .slice r2 l2 cr2] 27 32
 have HSN := Lib.hid hB.a
 have HSG := Lib.hid (show Sg w2 g2 _ _ _ from hB.z)
 have HB := Lib.hid hB.le
 have HSS : Hid (∀ W, Below w2.heap.size w2 W → (fun W => W.cell? ⟨w.heap.size, 4, none⟩ = some (.slice p n c) ∧ W.cell? ⟨w.heap.size, 5, none⟩ = some (.slice q m d) ∧ W.cell? ⟨w.heap.size, 6, none⟩ = some (.slice r l cr) ∧ W.cell? ⟨g2, 0, none⟩ = some (.slice p2 n2 c2) ∧ W.cell? ⟨g2, 1, none⟩ = some (.slice q2 m2 d2) ∧ W.cell? ⟨g2, 2, none⟩ = some (.slice r2 l2 cr2) ∧ Below w2.heap.size w2 W) W) := Lib.hid fun W hW => by
  have h1 := obj_later HSN.out hW
  obtain ⟨a, b, c⟩ := (HSG.out.later hW).cells
  exact ⟨cell_of_row _ _ 4 _ _ _ h1, cell_of_row _ _ 5 _ _ _ h1, cell_of_row _ _ 6 _ _ _ h1, a, b, c, hW⟩
 have HC1 := Lib.hid fun W (hW : Below w2.heap.size w2 W) => rsame20_any p p2 n c n2 c2 X D W ((h.later hB.le).later hW) ((k.later hB.le).later hW) e1 (fun x hx => ((i1 x hx).later hB.le).later hW) (fun x hx => ((i2 x hx).later hB.le).later hW) k1 b1 hn1
 have HC2 := Lib.hid fun W (hW : Below w2.heap.size w2 W) => rsame21_any q q2 m d m2 d2 Y T W ((h'.later hB.le).later hW) ((k'.later hB.le).later hW) e2 (fun x hx => ((i3 x hx).later hB.le).later hW) (fun x hx => ((i4 x hx).later hB.le).later hW) k3 b3 hm1
 have HC3 := Lib.hid fun W (hW : Below w2.heap.size w2 W) => rloads22_any p2 q2 r2 n2 m2 l2 c2 d2 cr2 D T L W ((k.later hB.le).later hW) ((k'.later hB.le).later hW) ((kl.later hB.le).later hW) (fun x hx => ((i2 x hx).later hB.le).later hW) (fun x hx => ((i4 x hx).later hB.le).later hW) b2 b4 hn hll
 have HC4 := Lib.hid fun (u : Option Addr) (a b : Nat) W (hW : Below w2.heap.size w2 W) (hg : Gs encLo W u a (loadsP ⟨peL D, ptL T, L⟩)) => rsloads22_any r u l cr a b K W ((hl.later hB.le).later hW) (by rw [e3]; exact hg) (by omega)
 unfold SnC at h0 ⊢
 unfold StV at HC3 ⊢
 clear h h' hl k k' kl e1 e2 i1 i2 i3 i4 k1 k3 b1 b2 b3 b4 hB
 go_enter Tryz.func14, Tryz.ntmps14
 go_upto_region 1 with fail
 clear h0 h2 hg2
 refine wp_region_held_drew (S := (fun W => W.cell? ⟨w.heap.size, 4, none⟩ = some (.slice p n c) ∧ W.cell? ⟨w.heap.size, 5, none⟩ = some (.slice q m d) ∧ W.cell? ⟨w.heap.size, 6, none⟩ = some (.slice r l cr) ∧ W.cell? ⟨g2, 0, none⟩ = some (.slice p2 n2 c2) ∧ W.cell? ⟨g2, 1, none⟩ = some (.slice q2 m2 d2) ∧ W.cell? ⟨g2, 2, none⟩ = some (.slice r2 l2 cr2) ∧ Below w2.heap.size w2 W)) (by kernel_rfl) (HSS.out _ (Below.refl _ _).drew) (fun hHeld => ?_)
 refine tk 0 rfl ?_;(try simp only [PT]);refine tk 1 rfl ?_;(try simp only [PT]);refine tk 2 rfl ?_;(try simp only [PT]);refine tk 3 rfl ?_;(try simp only [PT])
 refine ready_at 4 rfl (by kernel_rfl) (fun K hK => ?_)
 go_simp
 refine (HC1.out _ (Below.refl _ _).drew).mono ?_
 rintro ex v1 ⟨rfl, hb⟩
 have HB_v1 : Hid (Below w2.heap.size w2 v1) := Lib.hid (below_step (Below.refl _ _).drew hb)
 clear hb hHeld
 (try dsimp only)
 first
  | refine hK.out _ _ ?hS5 (fun hHeld => ?rest5)
  | (go_wp2_with fail; refine hK.out _ _ ?hS5 (fun hHeld => ?rest5))
 case hS5 => exact HSS.out _ HB_v1.out
 clear hK K
 (try simp only [PT])
 refine tk 5 rfl ?_;(try simp only [PT]);refine tk 6 rfl ?_;(try simp only [PT]);refine tk 7 rfl ?_;(try simp only [PT]);refine tk 8 rfl ?_;(try simp only [PT]);refine tk 9 rfl ?_;(try simp only [PT])
 refine ready_at 10 rfl (by kernel_rfl) (fun K hK => ?_)
 go_simp
 refine (HC2.out _ HB_v1.out).mono ?_
 rintro ex v2 ⟨rfl, hb⟩
 have HB_v2 : Hid (Below w2.heap.size w2 v2) := Lib.hid (below_step HB_v1.out hb)
 clear hb hHeld
 (try dsimp only)
 first
  | refine hK.out _ _ ?hS11 (fun hHeld => ?rest11)
  | (go_wp2_with fail; refine hK.out _ _ ?hS11 (fun hHeld => ?rest11))
 case hS11 => exact HSS.out _ HB_v2.out
 clear hK K
 (try simp only [PT])
 refine tk 11 rfl ?_;(try simp only [PT]);refine tk 12 rfl ?_;(try simp only [PT]);refine tk 13 rfl ?_;(try simp only [PT]);refine tk 14 rfl ?_;(try simp only [PT]);refine tk 15 rfl ?_;(try simp only [PT])
 refine ready_at 16 rfl (by kernel_rfl) (fun K hK => ?_)
 go_simp
 refine (HC3.out _ HB_v2.out).mono ?_
 rintro ex v3 ⟨u3, rfl, hg3, hb⟩
 have HG3 := Lib.hid hg3
 have HB_v3 : Hid (Below w2.heap.size w2 v3) := Lib.hid (below_step HB_v2.out hb)
 obtain ⟨p3, c3, hv3, _⟩ := hg3.open
 subst hv3
 clear hg3 hb hHeld
 (try dsimp only)
 first
  | refine hK.out _ _ ?hS17 (fun hHeld => ?rest17)
  | (go_wp2_with fail; refine hK.out _ _ ?hS17 (fun hHeld => ?rest17))
 case hS17 => exact HSS.out _ HB_v3.out
 clear hK K
 (try simp only [PT])
 refine ready_at 17 rfl (by kernel_rfl) (fun K hK => ?_)
 go_simp
 refine (HC4.out _ _ _ _ HB_v3.out HG3.out.gs).mono ?_
 rintro ex v4 ⟨rfl, hb⟩
 have HB_v4 : Hid (Below w2.heap.size w2 v4) := Lib.hid (below_step HB_v3.out hb)
 clear hb hHeld
 (try dsimp only)
 first
  | refine hK.out _ _ ?hS18 (fun hHeld => ?rest18)
  | (go_wp2_with fail; refine hK.out _ _ ?hS18 (fun hHeld => ?rest18))
 case hS18 => exact HSS.out _ HB_v4.out
 clear hK K
 (try simp only [PT])
 refine tk 18 rfl ?_;(try simp only [PT]);refine tk 19 rfl ?_;(try simp only [PT])
 refine wpAnyH_done (by kernel_rfl) ?_ _
 go_wp2
 go_ret
 exact ⟨rfl, below_step HB.out HB_v4.out⟩
section
variable (Sx : World → (Nat → Prop) → (Nat → Prop) → Value → Ps → Prop)
/-- a state that is made -/
def NewSQ (w : World) (N : Nat → Prop) (x : Ps) (e : Ending) (w' : World) : Prop := ∃ v S F, e = .returned v ∧ Sx w' S F v x ∧ (∀ b, S b → w.heap.size ≤ b) ∧ (∀ b, F b → N b ∨ w.heap.size ≤ b) ∧ Below w.heap.size w w'
/-- a state that is turned -/
def OpSQ (w : World) (S F : Nat → Prop) (v : Value) (x : Ps) (e : Ending) (w' : World) : Prop := ∃ S' F', e = .returned (.tuple #[]) ∧ Sx w' S' F' v x ∧ Chg S w w' ∧ (∀ b, S' b → S b ∨ w.heap.size ≤ b) ∧ (∀ b, F' b → F b ∨ w.heap.size ≤ b)
end
/-- what is read lies in blocks of F, or in new ones -/
def In1 (w : World) (F : Nat → Prop) (p : Option Addr) (n : Nat) : Prop := n ≠ 0 → ∀ b off, p = some ⟨b, off, none⟩ → F b ∨ w.heap.size ≤ b
def SlOk (p : Option Addr) (n c : Nat) : Prop := (p = none → c = 0) ∧ n ≤ c ∧ c ≤ maxLen
def HereSQ (w : World) (F : Nat → Prop) (l : List Wq) (e : Ending) (w' : World) : Prop := ∃ p n c o, e = .returned (.slice p n c) ∧ wxL o = l ∧ Gs encWd w' p n o ∧ In1 w F p n ∧ SlOk p n c ∧ Below w.heap.size w w'
def LoadSQ (w : World) (F : Nat → Prop) (l : List (Int × Int × Int)) (e : Ending) (w' : World) : Prop := ∃ p n c, e = .returned (.slice p n c) ∧ Gs encLo w' p n l ∧ In1 w F p n ∧ SlOk p n c ∧ Below w.heap.size w w'
def SnapSQ (w : World) (F : Nat → Prop) (x : Ps) (e : Ending) (w' : World) : Prop :=
 ∃ p n c D q m d T r l cr N, e = .returned (.agg (SnC 0 0 0 0 (.slice p n c) (.slice q m d) (.slice r l cr))) ∧ peL D = x.D ∧ ptL T = x.T ∧ ReN w' N p n D ∧ ReT w' N q m T ∧ Gs encLo w' r l (loadsP x) ∧ (∀ b, N b → F b ∨ w.heap.size ≤ b) ∧ In1 w F r l ∧ SlOk p n c ∧ SlOk q m d ∧ SlOk r l cr ∧ Below w.heap.size w w'
/-- the numbers of a snapshot are numbers -/
structure SnR (D : List Ex) (T : List Tx) (K : List (Int × Int × Int)) : Prop where
 r : ∀ x ∈ K, -9223372036854775808 ≤ x.2.1 ∧ x.2.1 ≤ 9223372036854775807
 s : ∀ x ∈ K, Rgi x.1
 d : ∀ y ∈ peL D, y.In
 t : ∀ y ∈ ptL T, y.In
theorem SnR.nil : SnR [] [] [] := ⟨fun x h => (by cases h), fun x h => (by cases h), fun x h => (by cases h), fun x h => (by cases h)⟩
/-- not so much of it that numbers run over -/
structure Ps.Few (x : Ps) : Prop where
 n : x.D.length + x.T.length ≤ 1048576
 l : x.L.length ≤ 1048576
 i : insLe x.D 2097151
 j : insLeT x.T 2097151
/-- Sx w S F v x: in w, v is a state that holds x; its own blocks are those of S, what it reads besides lies in those of F -/
structure StOk (Sx : World → (Nat → Prop) → (Nat → Prop) → Value → Ps → Prop) : Prop where
 keep : ∀ {w w' : World} {S F : Nat → Prop} {v : Value} {x : Ps}, Sx w S F v x → (∀ b, S b ∨ F b → w'.heap[b]? = w.heap[b]?) → w.heap.size ≤ w'.heap.size → Sx w' S F v x
 lt : ∀ {w : World} {S F : Nat → Prop} {v : Value} {x : Ps}, Sx w S F v x → ∀ b, S b ∨ F b → b < w.heap.size
 dis : ∀ {w : World} {S F : Nat → Prop} {v : Value} {x : Ps}, Sx w S F v x → ∀ b, S b → ¬ F b
 ok : ∀ {w : World} {S F : Nat → Prop} {v : Value} {x : Ps}, Sx w S F v x → x.Ok ∧ (∀ y ∈ x.D, dok y.dg) ∧ (∀ y ∈ x.T, dok y.dg) ∧ x.In
 new : ∀ {w : World} {N : Nat → Prop} {a b c' e : Int} {p q r : Option Addr} {n c m d l cr : Nat} {D : List Ex} {T : List Tx} {K : List (Int × Int × Int)}, ReN w N p n D → ReT w N q m T → Gs encLo w r l K → SlOk p n c → SlOk q m d → SlOk r l cr → SnR D T K → n + m ≤ 1048576 → l ≤ 1048576 → insLe (peL D) 2097151 → insLeT (ptL T) 2097151 →
  Calls Tryz.prog 8 #[.agg (SnC a b c' e (.slice p n c) (.slice q m d) (.slice r l cr))] w fun e w' => NewSQ Sx w N (newS (peL D) (ptL T) (psL K)) e w'
 apply : ∀ {w : World} {S F : Nat → Prop} {v : Value} {x : Ps} (y : Wq), Sx w S F v x → dok y.dg → y.In → x.Few → Calls Tryz.prog 10 #[v, y.v] w fun e w' => OpSQ Sx w S F v (applyS x y) e w'
 keepS : ∀ {w : World} {S F : Nat → Prop} {v u : Value} {x : Ps} {B : List Int}, Sx w S F v x → Is w u B → (B ≠ [] → ∀ b, u.ownBlock = some b → ¬ S b) → B.length ≤ 2097152 → (∀ b ∈ B, Rgi b) → x.Few → Calls Tryz.prog 12 #[v, u] w fun e w' => OpSQ Sx w S F v (keepS x B) e w'
 here : ∀ {w : World} {S F : Nat → Prop} {v : Value} {x : Ps} (s : Int), Sx w S F v x → x.Few → Calls Tryz.prog 17 #[v, .int .i64 s] w fun e w' => HereSQ w F (hereP x s) e w'
 loads : ∀ {w : World} {S F : Nat → Prop} {v : Value} {x : Ps}, Sx w S F v x → x.Few → Calls Tryz.prog 20 #[v] w fun e w' => LoadSQ w F (loadsP x) e w'
 snapshot : ∀ {w : World} {S F : Nat → Prop} {v : Value} {x : Ps}, Sx w S F v x → x.Few → Calls Tryz.prog 15 #[v] w fun e w' => SnapSQ w F x e w'
theorem StOk.later {Sx : World → (Nat → Prop) → (Nat → Prop) → Value → Ps → Prop} (hT : StOk Sx) {w w' : World} {S F : Nat → Prop} {v : Value} {x : Ps} (h : Sx w S F v x) (hb : Below w.heap.size w w') : Sx w' S F v x :=
 hT.keep h (fun b hb2 => hb.block b (hT.lt h b hb2)) hb.size
theorem reN_none0 (w : World) : ReN w (fun _ => False) none 0 [] := ⟨Gs.empty _ _ _, fun h => absurd rfl h, (fun x h => by cases h), (fun x h => by cases h), (fun x h => by cases h), fun b h => h.elim⟩
theorem reT_none0 (w : World) : ReT w (fun _ => False) none 0 [] := ⟨Gs.empty _ _ _, fun h => absurd rfl h, (fun x h => by cases h), (fun x h => by cases h), (fun x h => by cases h), fun b h => h.elim⟩
theorem SlOk.nil : SlOk none 0 0 := ⟨fun _ => rfl, Nat.le_refl _, by unfold maxLen; decide⟩
def wdX : Wq := ⟨1, 0, lvS, ⟨#[]⟩, 9, 1, 37, 62⟩
def wdY : Wq := ⟨5, 0, lvS, ⟨#[]⟩, 0, 2, 37, 53⟩
theorem built_lc3 (a b c : Int) : Tryz.prog.built 37 [(0, .int .i64 a), (1, .int .i64 b), (2, .int .i64 c)] = some (lcA a b c) := by kernel_rfl
theorem built_wdX : Tryz.prog.built 39 [(0, .int .i64 1), (2, .agg (bcs lvS)), (4, .int .i64 9), (5, .agg (lcA 1 37 62))] = some (mixC wdX.a wdX.dg wdX.t) := by kernel_rfl
theorem built_wdY : Tryz.prog.built 39 [(0, .int .i64 5), (2, .agg (bcs lvS)), (5, .agg (lcA 2 37 53))] = some (mixC wdY.a wdY.dg wdY.t) := by kernel_rfl
def s1L : Ps := ⟨[⟨lvS, 1, 9, 1, 37, 62, [1]⟩], [], [(1, 62)]⟩
def s2L : Ps := ⟨[⟨lvS, 5, 0, 2, 37, 53, [1]⟩], [], [(1, 62), (2, 53)]⟩
theorem lv1 : applyS (newS (peL []) (ptL []) (psL [])) wdX = s1L := rfl
theorem lv2 : applyS s1L wdY = s2L := rfl
theorem lvH1 : hereP s2L 1 = [] := rfl
theorem lvH2 : (hereP s2L 2).length = 1 := rfl
theorem lvLo : loadsP s2L = [(1, 62, 0), (2, 53, 53)] := rfl
theorem few0 : (newS (peL []) (ptL []) (psL [])).Few := ⟨by decide, by decide, (fun x h => by cases h), (fun x h => by cases h)⟩
theorem few1 : s1L.Few := ⟨by decide, by decide, (fun x h => by rw [show s1L.D = [_] from rfl, List.mem_singleton] at h; rw [h]; decide), (fun x h => by cases h)⟩
theorem few2 : s2L.Few := ⟨by decide, by decide, (fun x h => by rw [show s2L.D = [_] from rfl, List.mem_singleton] at h; rw [h]; decide), (fun x h => by cases h)⟩
set_option maxRecDepth 100000 in
set_option maxHeartbeats 1000000 in
theorem lives22_any {Sx : World → (Nat → Prop) → (Nat → Prop) → Value → Ps → Prop} (hT : StOk Sx) (w : World) : Calls Tryz.prog 22 #[] w fun e w' => e = .returned (.bool true) ∧ Below w.heap.size w w' := by
 have HT := Lib.hid hT
 have HNW := Lib.hid (hT.new (a := 0) (b := 0) (c' := 0) (e := 0) (n := 0) (c := 0) (m := 0) (d := 0) (l := 0) (cr := 0) (D := []) (T := []) (K := []) (reN_none0 w) (reT_none0 w) (Gs.empty encLo w none) SlOk.nil SlOk.nil SlOk.nil SnR.nil (by omega) (by omega) (fun x h => absurd h List.not_mem_nil) (fun x h => absurd h List.not_mem_nil))
 unfold SnC at HNW
 clear hT
 go_enter Tryz.func22, Tryz.ntmps22
 go_upto_region 2 with (go_at_call 8; refine HNW.out.mono ?_; rintro e w1 ⟨v, S, F, rfl, hx1, hs1, hf1, hb1⟩; have HX1 := Lib.hid hx1; have HS1 := Lib.hid hs1; have HB1 := Lib.hid hb1; clear hx1 hs1 hf1 hb1)
 have HAP := Lib.hid (HT.out.apply wdX HX1.out lvS_ok ⟨⟨by decide, by decide⟩, ⟨by decide, by decide⟩⟩ few0)
 rw [lv1] at HAP
 go_upto_region 3 with (first
  | (refine wpList_build_is rfl 35 _ rfl (bcs lvS) ?_ ?_; focus (first | exact built_dg1 | kernel_rfl))
  | (refine wpList_build_is rfl 37 _ rfl (lcA 1 37 62) ?_ ?_; focus (first | exact built_lc3 1 37 62 | kernel_rfl))
  | (refine wpList_build_is rfl 39 _ rfl (mixC wdX.a wdX.dg wdX.t) ?_ ?_; focus (first | exact built_wdX | kernel_rfl))
  | (go_at_call 10; refine HAP.out.mono ?_; rintro e w2 ⟨S2, F2, rfl, hx2, hc2, hs2, hf2⟩; have HX2 := Lib.hid hx2; have HB2 : Hid (Below w.heap.size w w2) := Lib.hid (HB1.out.trans (hc2.below HS1.out HB1.out.size)); have HS2 : Hid (∀ b, S2 b → w.heap.size ≤ b) := Lib.hid (fun b hb => (hs2 b hb).elim (HS1.out b) (fun h => Nat.le_trans HB1.out.size h)); clear hx2 hc2 hs2 hf2))
 have HAQ := Lib.hid (HT.out.apply wdY HX2.out lvS_ok ⟨⟨by decide, by decide⟩, ⟨by decide, by decide⟩⟩ few1)
 rw [lv2] at HAQ
 go_upto_region 4 with (first
  | (refine wpList_build_is rfl 35 _ rfl (bcs lvS) ?_ ?_; focus (first | exact built_dg1 | kernel_rfl))
  | (refine wpList_build_is rfl 37 _ rfl (lcA 2 37 53) ?_ ?_; focus (first | exact built_lc3 2 37 53 | kernel_rfl))
  | (refine wpList_build_is rfl 39 _ rfl (mixC wdY.a wdY.dg wdY.t) ?_ ?_; focus (first | exact built_wdY | kernel_rfl))
  | (go_at_call 10; refine HAQ.out.mono ?_; rintro e w3 ⟨S3, F3, rfl, hx3, hc3, hs3, hf3⟩; have HX3 := Lib.hid hx3; have HB3 : Hid (Below w.heap.size w w3) := Lib.hid (HB2.out.trans (hc3.below HS2.out HB2.out.size)); clear hx3 hc3 hs3 hf3))
 have HLO := Lib.hid (HT.out.loads HX3.out few2)
 rw [lvLo] at HLO
 go_upto_region 5 with (go_at_call 20; refine HLO.out.mono ?_; rintro e w4 ⟨p4, n4, c4, rfl, hg4, _, _, hb4⟩; have HX4 := Lib.hid (HT.out.later HX3.out hb4); have HG4 := Lib.hid hg4; have HB4 := Lib.hid (below_step HB3.out hb4); have HL4 := Lib.hid hg4.len; clear hg4 hb4)
 obtain rfl : n4 = 2 := HL4.out.symm
 have HH1 := Lib.hid (HT.out.here 1 HX4.out few2)
 rw [lvH1] at HH1
 have HH2 := Lib.hid fun W (hW : Below w4.heap.size w4 W) => HT.out.here 2 (HT.out.later HX4.out hW) few2
 obtain ⟨b, off, rfl, _⟩ := HG4.out.lo 0 (by decide)
 have HCE : Hid (∀ W, Below w4.heap.size w4 W → W.cell? ⟨b, off, none⟩ = some (.int .i64 1) ∧ W.cell? ⟨b, off + 1, none⟩ = some (.int .i64 62) ∧ W.cell? ⟨b, off + 2, none⟩ = some (.int .i64 0) ∧ W.cell? ⟨b, off + 3, none⟩ = some (.int .i64 2) ∧ W.cell? ⟨b, off + 4, none⟩ = some (.int .i64 53) ∧ W.cell? ⟨b, off + 5, none⟩ = some (.int .i64 53)) := Lib.hid fun W hW => by
  obtain ⟨b2, off2, hp2, e0, e1, e2⟩ := (HG4.out.later hW).lo 0 (by decide)
  simp only [Option.some.injEq, Addr.mk.injEq, and_true] at hp2
  obtain ⟨rfl, rfl⟩ := hp2
  obtain ⟨b2, off2, hp2, f0, f1, f2⟩ := (HG4.out.later hW).lo 1 (by decide)
  simp only [Option.some.injEq, Addr.mk.injEq, and_true] at hp2
  obtain ⟨rfl, rfl⟩ := hp2
  exact ⟨e0, e1, e2, f0, f1, f2⟩
 have HR0 : Hid (∀ W, Below w4.heap.size w4 W → (Instr.loadAt 97 (.pointer (some ⟨b, off, none⟩))).run Tryz.prog W = .ok (.agg #[.int .i64 1, .int .i64 62, .int .i64 0]) W) := Lib.hid fun W hW => run_loadAt_mid W b off 97 [.int .i64 1, .int .i64 62, .int .i64 0] _ (fun i v hv => by
  obtain ⟨c0, c1, c2, _⟩ := HCE.out W hW
  match i, hv with
  | 0, hv => rw [← hv]; exact c0
  | 1, hv => rw [← hv]; exact c1
  | 2, hv => rw [← hv]; exact c2
  | n + 3, hv => simp at hv) Tryz.underlying97 rfl (by kernel_rfl)
 have HR1 : Hid (∀ W, Below w4.heap.size w4 W → (Instr.loadAt 97 (.pointer (some ⟨b, off + 3, none⟩))).run Tryz.prog W = .ok (.agg #[.int .i64 2, .int .i64 53, .int .i64 53]) W) := Lib.hid fun W hW => run_loadAt_mid W b (off + 3) 97 [.int .i64 2, .int .i64 53, .int .i64 53] _ (fun i v hv => by
  obtain ⟨_, _, _, c0, c1, c2⟩ := HCE.out W hW
  match i, hv with
  | 0, hv => rw [← hv]; exact c0
  | 1, hv => rw [← hv]; exact c1
  | 2, hv => rw [← hv]; exact c2
  | n + 3, hv => simp at hv) Tryz.underlying97 rfl (by kernel_rfl)
 have hq1 := fun W => lo_eq 1 62 0 W
 have hq2 := fun W => lo_eq 2 53 53 W
 clear HCE
 go_wp2_with (first
  | (go_at_call 17; refine (HH2.out _ HB45.out).mono ?_; rintro e w6 ⟨p6, n6, c6, o6, rfl, he6, hg6, _, _, hb6⟩; have HB6 := Lib.hid (below_step HB5.out hb6); have hz6 : n6 = 1 := (by have h1 := hg6.len; rw [← wxL_length, he6, lvH2] at h1; exact h1.symm); subst hz6; have HRA := Lib.hid (HR0.out w6 (below_step HB45.out hb6)); have HRB := Lib.hid (HR1.out w6 (below_step HB45.out hb6)); clear hg6 he6 hb6)
  | (go_at_call 17; refine HH1.out.mono ?_; rintro e w5 ⟨p5, n5, c5, o5, rfl, he5, hg5, _, _, hb5⟩; have HB5 := Lib.hid (below_step HB4.out hb5); have HB45 := Lib.hid hb5; have HN5 := Lib.hid hg5.len; have hz5 : n5 = 0 := (by have h1 := hg5.len; rw [← wxL_length, he5] at h1; exact h1.symm); subst hz5; clear hg5 he5 hb5)
  | (refine wpList_wanted (by rfl) fun K hK => wp_ld 97 _ rfl _ rfl _ HRA.out (hK _ _ ?_); clear hK K)
  | (refine wpList_wanted (by rfl) fun K hK => wp_ld 97 _ rfl _ rfl _ HRB.out (hK _ _ ?_); clear hK K))
 go_ret
 exact ⟨rfl, HB6.out⟩
/-- behind k words -/
structure FewN (x : Ps) (k : Nat) : Prop where
 d : x.D.length ≤ k
 t : x.T.length ≤ k
 l : x.L.length ≤ k
 i : insLe x.D k
 j : insLeT x.T k
theorem FewN.few {x : Ps} {k : Nat} (h : FewN x k) (hk : k ≤ 524288) : x.Few :=
 ⟨by have := h.d; have := h.t; omega, by have := h.l; omega, fun y hy => Nat.le_trans (h.i y hy) (by omega), fun y hy => Nat.le_trans (h.j y hy) (by omega)⟩
theorem FewN.zero : FewN zeroS 0 := ⟨Nat.le_refl _, Nat.le_refl _, Nat.le_refl _, (fun x h => by cases h), (fun x h => by cases h)⟩
theorem applyL_length (l : List (Int × Int)) (w : Wq) : (applyL l w).length ≤ l.length + 1 := by
 unfold applyL
 split
 ·exact loadP_length _ _ _ _
 ·omega
theorem FewN.apply {x : Ps} {k : Nat} (h : FewN x k) (w : Wq) : FewN (applyS x w) (k + 1) :=
 ⟨by have h1 := applyE_length x.D w; have h2 := h.d; show (applyE x.D w).length ≤ k + 1; omega,
  by have h1 := applyT_length x.T w; have h2 := h.t; show (applyT x.T w).length ≤ k + 1; omega,
  by have h1 := applyL_length x.L w; have h2 := h.l; show (applyL x.L w).length ≤ k + 1; omega,
  applyE_ins h.i, applyT_ins h.j⟩
theorem FewN.mono {x : Ps} {k m : Nat} (h : FewN x k) (hk : k ≤ m) : FewN x m :=
 ⟨Nat.le_trans h.d hk, Nat.le_trans h.t hk, Nat.le_trans h.l hk, fun y hy => Nat.le_trans (h.i y hy) hk, fun y hy => Nat.le_trans (h.j y hy) hk⟩
theorem row_range {W : World} {b : Nat} {cs : List Value} {t : TypeId} (h : W.heap[b]? = some (.cells cs.toArray t (0, 0))) : W.rangeAt b 0 cs := fun i v hv => by
 rw [Nat.zero_add]
 simp only [World.cell?, h]
 simpa using hv
theorem sn_load {W : World} {b : Nat} {x y z e : Int} {u v s : Value} (h : W.heap[b]? = some (.cells (SnC x y z e u v s) 27 (0, 0))) : (Instr.loadAt 27 (.pointer (some ⟨b, 0, none⟩))).run Tryz.prog W = .ok (.agg (SnC x y z e u v s)) W :=
 run_loadAt_mid W b 0 27 [.int .i64 x, .int .i64 y, .int .i64 z, .int .u64 e, u, v, s] _ (row_range h) Tryz.underlying27 rfl (by kernel_rfl)
set_option maxRecDepth 100000 in
set_option maxHeartbeats 8000000 in
theorem rapply22_any (p q r : Option Addr) (n m l c d cr : Nat) (D : List Ex) (T : List Tx) (L : List (Int × Int)) (x : Wq) (w : World) (h : Gs encEn w p n D) (h' : Gs encTn w q m T) (hl : Gs encLo w r l (ldL L)) (hi : ∀ y ∈ D, Is w y.s y.e.ins) (hi' : ∀ y ∈ T, Is w y.s y.e.ins) (hk : ∀ y ∈ D, dok y.e.dg) (hk' : ∀ y ∈ T, dok y.e.dg) (hb : ∀ y ∈ D, y.e.ins.length ≤ 2097151) (hb' : ∀ y ∈ T, y.e.ins.length ≤ 2097151) (hx : dok x.dg) (hn : n ≤ 2097152) (hm : m ≤ 2097152) (hll : l ≤ 2097152) :
 Calls Tryz.prog 11 #[StV p q r n m l c d cr, x.v] w fun e w' => StQ w p q r n m l D T (applyS ⟨peL D, ptL T, L⟩ x) e w' := by
 obtain ⟨w0, w1, w2, g1, g2, h0, h1, h2, hg1, hg2, hB⟩ := box3 w #[.slice p n c, .slice q m d, .slice r l cr] (mixC x.a x.dg x.t) #[.slice none 0 0, .slice none 0 0, .slice none 0 0] 32 39 32
 have HSG : Hid (Sg w2 w.heap.size (.slice p n c) (.slice q m d) (.slice r l cr)) := Lib.hid hB.a
 have HX : Hid (Wm w2 g1 x) := Lib.hid hB.b
 have HZR : Hid (Sg w2 g2 (.slice none 0 0) (.slice none 0 0) (.slice none 0 0)) := Lib.hid hB.z
 have HB := Lib.hid hB.le
 have HG2 : Hid (w.heap.size ≤ g2) := Lib.hid (by have := hB.lt; omega)
 have HG2L : Hid (g2 < w2.heap.size) := Lib.hid HZR.out.lt
 have HLX := Lib.hid fun W (hW : Below w2.heap.size w2 W) => (HX.out.later hW).load hx.1
 have HXC : Hid (∀ W, Below w2.heap.size w2 W → W.cell? ⟨g1, 0, none⟩ = some (.int .i64 x.k) ∧ W.cell? ⟨g1, 36, none⟩ = some (.int .i64 x.seg) ∧ W.cell? ⟨g1, 38, none⟩ = some (.int .i64 x.len)) := Lib.hid fun W hW => ⟨Mx.first (HX.out.later hW) 0 _ rfl, Mx.last (HX.out.later hW) hx.1 2 _ rfl, Mx.last (HX.out.later hW) hx.1 4 _ rfl⟩
 have HSS : Hid (∀ W, Below w2.heap.size w2 W → (fun W => W.cell? ⟨w.heap.size, 0, none⟩ = some (.slice p n c) ∧ W.cell? ⟨w.heap.size, 1, none⟩ = some (.slice q m d) ∧ W.cell? ⟨w.heap.size, 2, none⟩ = some (.slice r l cr) ∧ Below w2.heap.size w2 W) W) := Lib.hid fun W hW => by
  obtain ⟨a, b, c⟩ := (HSG.out.later hW).cells
  exact ⟨a, b, c, hW⟩
 have HL := Lib.hid (hl.later hB.le)
 have HRL := Lib.hid fun W (hW : Below w2.heap.size w2 W) => rload22_any r l cr L x.seg x.len false W ((hl.later hB.le).later hW) hll (fun h => by cases h)
 have HC1 : Hid (∀ W, Below w2.heap.size w2 W → Calls Tryz.prog 47 #[.slice p n c, .agg (mixC x.a x.dg x.t)] W fun e w' => SlQ (fun V v => EnR V w2.heap.size p n D v (applyE (peL D) x)) W e w') := Lib.hid fun W hW => (rapply20_any p n c D x W ((h.later hB.le).later hW) (fun y hy => ((hi y hy).later hB.le).later hW) hk hb hx hn).mono fun e w' hq => hq.r hW.size
 have HC2 : Hid (∀ W, Below w2.heap.size w2 W → Calls Tryz.prog 48 #[.slice q m d, .agg (mixC x.a x.dg x.t)] W fun e w' => SlQ (fun V v => TnR V w2.heap.size q m T v (applyT (ptL T) x)) W e w') := Lib.hid fun W hW => (rapply21_any q m d T x W ((h'.later hB.le).later hW) (fun y hy => ((hi' y hy).later hB.le).later hW) hk' hb' hx hm).mono fun e w' hq => hq.r hW.size
 unfold StV Wq.v
 generalize hMX : mixC x.a x.dg x.t = MX at *
 clear hMX h h' hl hi hi' hk hk' hb hb' hB HX
 go_enter Tryz.func11, Tryz.ntmps11
 go_upto_region 1 with fail
 clear h0 h1 h2 hg1 hg2
 go_cut [5] (fun g wx => ∃ (G : Nat) (q1 : Option Addr) (m1 d1 : Nat) (q2 : Option Addr) (m2 d2 : Nat), g = .pointer (some ⟨G, 0, none⟩) ∧ Hid (Sg wx G (.slice q1 m1 d1) (.slice q2 m2 d2) (.slice r l cr)) ∧ Hid (EnR wx w2.heap.size p n D (.slice q1 m1 d1) (applyE (peL D) x)) ∧ Hid (TnR wx w2.heap.size q m T (.slice q2 m2 d2) (applyT (ptL T) x)) ∧ Hid (w2.heap.size ≤ G) ∧ Hid (Below w2.heap.size w2 wx))
 case first =>
  refine wp_region_held_drew (S := (fun W => W.cell? ⟨w.heap.size, 0, none⟩ = some (.slice p n c) ∧ W.cell? ⟨w.heap.size, 1, none⟩ = some (.slice q m d) ∧ W.cell? ⟨w.heap.size, 2, none⟩ = some (.slice r l cr) ∧ Below w2.heap.size w2 W)) (by kernel_rfl) (HSS.out _ (Below.refl _ _).drew) (fun hHeld => ?_)
  refine tk 0 rfl ?_;(try simp only [PT]);refine tk 1 rfl ?_;(try simp only [PT])
  refine tkL 2 rfl (yieldsIf_ld (by rfl) 39 (.tmp 3) rfl (.pointer (some ⟨g1, 0, none⟩)) rfl (.agg MX) (fun W hW => HLX.out W hW.2.2.2)) ?_
  (try simp only [PT])
  refine tk 4 rfl ?_;(try simp only [PT]);refine tk 5 rfl ?_;(try simp only [PT])
  refine tkL 6 rfl (yieldsIf_ld (by rfl) 39 (.tmp 3) rfl (.pointer (some ⟨g1, 0, none⟩)) rfl (.agg MX) (fun W hW => HLX.out W hW.2.2.2)) ?_
  (try simp only [PT])
  refine tk 8 rfl ?_;(try simp only [PT]);refine tk 9 rfl ?_;(try simp only [PT])
  obtain ⟨y0, hy0⟩ : ∃ X, w2.drew = X := ⟨_, rfl⟩
  have HB0 : Hid (Below w2.heap.size w2 y0) := Lib.hid (by rw [← hy0]; exact (Below.refl _ _).drew)
  rw [hy0]
  clear hy0 hHeld
  have hHeld := HSS.out _ HB0.out
  refine wpAnyH_ready (rs := [3, 11]) (by kernel_rfl) (by simp) (all_at 3 rfl (fun K hK => ?o7) (all_at 11 rfl (fun K hK => ?o8) AllReadyH.nil))
  case o7 =>
   go_simp
   refine (HC1.out _ HB0.out).mono ?_
   rintro ex y9 ⟨q1, m1, d1, rfl, hr, hb⟩
   have HX9 : Hid (Below y0.heap.size y0 y9) := Lib.hid hb
   have HR9 := Lib.hid hr
   clear hr hb
   (try dsimp only)
   first
    | refine hK.out _ _ ?hS10 (fun hHeld => ?rr10)
    | (go_wp2_with fail; refine hK.out _ _ ?hS10 (fun hHeld => ?rr10))
   case hS10 => exact HSS.out _ (below_step HB0.out HX9.out)
   clear hK K
   (try simp only [PT])
   have FB11 := Lib.hid (below_step HB0.out HX9.out)
   clear hHeld
   have hHeld := HSS.out _ FB11.out
   refine wpAnyH_ready (rs := [7, 11]) (by kernel_rfl) (by simp) (all_at 7 rfl (fun K hK => ?o12) (all_at 11 rfl (fun K hK => ?o13) AllReadyH.nil))
   case o12 =>
    go_simp
    refine (HC2.out _ FB11.out).mono ?_
    rintro ex y14 ⟨q2, m2, d2, rfl, hr, hb⟩
    have HX14 : Hid (Below y9.heap.size y9 y14) := Lib.hid hb
    have HR14 := Lib.hid hr
    clear hr hb
    (try dsimp only)
    first
     | refine hK.out _ _ ?hS15 (fun hHeld => ?rr15)
     | (go_wp2_with fail; refine hK.out _ _ ?hS15 (fun hHeld => ?rr15))
    case hS15 => exact HSS.out _ (below_step FB11.out HX14.out)
    clear hK K
    (try simp only [PT])
    have FR116 := Lib.hid (HR9.out.later HX14.out)
    have FB16 := Lib.hid (below_step FB11.out HX14.out)
    clear hHeld
    have hHeld := HSS.out _ FB16.out
    refine tk 10 rfl ?_;(try simp only [PT])
    refine wpAnyH_ready (rs := [11]) (by kernel_rfl) (by simp) (all_at 11 rfl (fun K hK => ?o17) AllReadyH.nil)
    case o17 =>
     go_simp
     first
      | refine hK.out _ _ ?hS20 (fun hHeld => ?rr20)
      | (go_wp2_with fail; refine hK.out _ _ ?hS20 (fun hHeld => ?rr20))
     case hS20 => exact HSS.out _ (FB16.out.alloc FB16.out.size _)
     clear hK K
     (try simp only [PT])
     obtain ⟨y19, hy⟩ : ∃ X, y14.alloc (.cells #[.slice none 0 0, .slice none 0 0, .slice none 0 0] 32) = X := ⟨_, rfl⟩
     rw [hy]
     obtain ⟨G, hG⟩ : ∃ x, y14.heap.size = x := ⟨_, rfl⟩
     rw [hG]
     have HX19 : Hid (Below y14.heap.size y14 y19) := Lib.hid (by rw [← hy]; exact (Below.refl _ _).alloc (Nat.le_refl _) _)
     have HZ19 : Hid (Sg y19 G (.slice none 0 0) (.slice none 0 0) (.slice none 0 0)) := Lib.hid (by rw [← hG, ← hy]; exact heap_alloc_new _ _)
     have HGB : Hid (w2.heap.size ≤ G) := Lib.hid (by rw [← hG]; exact FB16.out.size)
     have FR121 := Lib.hid (FR116.out.later HX19.out)
     have FR221 := Lib.hid (HR14.out.later HX19.out)
     have FB21 := Lib.hid (below_step FB16.out HX19.out)
     clear hy hG
     clear hHeld
     have hHeld := HSS.out _ FB21.out
     refine ready_at 12 rfl (by kernel_rfl) (fun K hK => ?_)
     rw [if_pos (by rfl)]
     refine wp_store_row 32 _ _ rfl G #[.slice q1 m1 d1, .slice q2 m2 d2, .slice r l cr] rfl rfl 32 _ HZ19.out sizeSt rfl (by simp [Value.oneCell']) ?_
     have HZ22 := Lib.hid (HZ19.out.row (a' := .slice q1 m1 d1) (b' := .slice q2 m2 d2) (c' := .slice r l cr))
     have HP22 := Lib.hid (FR121.out.bySt HZ19.out ⟨rfl, rfl, rfl⟩ (keep_rowS (cs := #[.slice q1 m1 d1, .slice q2 m2 d2, .slice r l cr])))
     have HQ22 := Lib.hid (FR221.out.bySt HZ19.out ⟨rfl, rfl, rfl⟩ (keep_rowS (cs := #[.slice q1 m1 d1, .slice q2 m2 d2, .slice r l cr])))
     have HW22 := Lib.hid (below_setRow8 FB21.out G #[.slice q1 m1 d1, .slice q2 m2 d2, .slice r l cr] HGB.out)
     refine hK.out _ _ ?hS24 (fun hHeld => ?rr24)
     case hS24 => exact HSS.out _ HW22.out
     clear hK K
     (try simp only [PT])
     refine wpAnyH_done (by kernel_rfl) ?_ _
     go_wp2_with fail
     go_meet
     exact ⟨G, q1, m1, d1, q2, m2, d2, rfl, HZ22, HP22, HQ22, HGB, HW22⟩
   case o13 =>
    go_simp
    first
     | refine hK.out _ _ ?hS26 (fun hHeld => ?rr26)
     | (go_wp2_with fail; refine hK.out _ _ ?hS26 (fun hHeld => ?rr26))
    case hS26 => exact HSS.out _ (FB11.out.alloc FB11.out.size _)
    clear hK K
    (try simp only [PT])
    obtain ⟨y25, hy⟩ : ∃ X, y9.alloc (.cells #[.slice none 0 0, .slice none 0 0, .slice none 0 0] 32) = X := ⟨_, rfl⟩
    rw [hy]
    obtain ⟨G, hG⟩ : ∃ x, y9.heap.size = x := ⟨_, rfl⟩
    rw [hG]
    have HX25 : Hid (Below y9.heap.size y9 y25) := Lib.hid (by rw [← hy]; exact (Below.refl _ _).alloc (Nat.le_refl _) _)
    have HZ25 : Hid (Sg y25 G (.slice none 0 0) (.slice none 0 0) (.slice none 0 0)) := Lib.hid (by rw [← hG, ← hy]; exact heap_alloc_new _ _)
    have HGB : Hid (w2.heap.size ≤ G) := Lib.hid (by rw [← hG]; exact FB11.out.size)
    have FR127 := Lib.hid (HR9.out.later HX25.out)
    have FB27 := Lib.hid (below_step FB11.out HX25.out)
    clear hy hG
    clear hHeld
    have hHeld := HSS.out _ FB27.out
    refine wpAnyH_ready (rs := [7]) (by kernel_rfl) (by simp) (all_at 7 rfl (fun K hK => ?o28) AllReadyH.nil)
    case o28 =>
     go_simp
     refine (HC2.out _ FB27.out).mono ?_
     rintro ex y29 ⟨q2, m2, d2, rfl, hr, hb⟩
     have HX29 : Hid (Below y25.heap.size y25 y29) := Lib.hid hb
     have HR29 := Lib.hid hr
     clear hr hb
     (try dsimp only)
     first
      | refine hK.out _ _ ?hS30 (fun hHeld => ?rr30)
      | (go_wp2_with fail; refine hK.out _ _ ?hS30 (fun hHeld => ?rr30))
     case hS30 => exact HSS.out _ (below_step FB27.out HX29.out)
     clear hK K
     (try simp only [PT])
     have FR131 := Lib.hid (FR127.out.later HX29.out)
     have FZ31 := Lib.hid (HZ25.out.later HX29.out)
     have FB31 := Lib.hid (below_step FB27.out HX29.out)
     clear hHeld
     have hHeld := HSS.out _ FB31.out
     refine tk 10 rfl ?_;(try simp only [PT])
     refine ready_at 12 rfl (by kernel_rfl) (fun K hK => ?_)
     rw [if_pos (by rfl)]
     refine wp_store_row 32 _ _ rfl G #[.slice q1 m1 d1, .slice q2 m2 d2, .slice r l cr] rfl rfl 32 _ FZ31.out sizeSt rfl (by simp [Value.oneCell']) ?_
     have HZ32 := Lib.hid (FZ31.out.row (a' := .slice q1 m1 d1) (b' := .slice q2 m2 d2) (c' := .slice r l cr))
     have HP32 := Lib.hid (FR131.out.bySt FZ31.out ⟨rfl, rfl, rfl⟩ (keep_rowS (cs := #[.slice q1 m1 d1, .slice q2 m2 d2, .slice r l cr])))
     have HQ32 := Lib.hid (HR29.out.bySt FZ31.out ⟨rfl, rfl, rfl⟩ (keep_rowS (cs := #[.slice q1 m1 d1, .slice q2 m2 d2, .slice r l cr])))
     have HW32 := Lib.hid (below_setRow8 FB31.out G #[.slice q1 m1 d1, .slice q2 m2 d2, .slice r l cr] HGB.out)
     refine hK.out _ _ ?hS34 (fun hHeld => ?rr34)
     case hS34 => exact HSS.out _ HW32.out
     clear hK K
     (try simp only [PT])
     refine wpAnyH_done (by kernel_rfl) ?_ _
     go_wp2_with fail
     go_meet
     exact ⟨G, q1, m1, d1, q2, m2, d2, rfl, HZ32, HP32, HQ32, HGB, HW32⟩
  case o8 =>
   go_simp
   first
    | refine hK.out _ _ ?hS36 (fun hHeld => ?rr36)
    | (go_wp2_with fail; refine hK.out _ _ ?hS36 (fun hHeld => ?rr36))
   case hS36 => exact HSS.out _ (HB0.out.alloc HB0.out.size _)
   clear hK K
   (try simp only [PT])
   obtain ⟨y35, hy⟩ : ∃ X, y0.alloc (.cells #[.slice none 0 0, .slice none 0 0, .slice none 0 0] 32) = X := ⟨_, rfl⟩
   rw [hy]
   obtain ⟨G, hG⟩ : ∃ x, y0.heap.size = x := ⟨_, rfl⟩
   rw [hG]
   have HX35 : Hid (Below y0.heap.size y0 y35) := Lib.hid (by rw [← hy]; exact (Below.refl _ _).alloc (Nat.le_refl _) _)
   have HZ35 : Hid (Sg y35 G (.slice none 0 0) (.slice none 0 0) (.slice none 0 0)) := Lib.hid (by rw [← hG, ← hy]; exact heap_alloc_new _ _)
   have HGB : Hid (w2.heap.size ≤ G) := Lib.hid (by rw [← hG]; exact HB0.out.size)
   have FB37 := Lib.hid (below_step HB0.out HX35.out)
   clear hy hG
   clear hHeld
   have hHeld := HSS.out _ FB37.out
   refine wpAnyH_ready (rs := [3]) (by kernel_rfl) (by simp) (all_at 3 rfl (fun K hK => ?o38) AllReadyH.nil)
   case o38 =>
    go_simp
    refine (HC1.out _ FB37.out).mono ?_
    rintro ex y39 ⟨q1, m1, d1, rfl, hr, hb⟩
    have HX39 : Hid (Below y35.heap.size y35 y39) := Lib.hid hb
    have HR39 := Lib.hid hr
    clear hr hb
    (try dsimp only)
    first
     | refine hK.out _ _ ?hS40 (fun hHeld => ?rr40)
     | (go_wp2_with fail; refine hK.out _ _ ?hS40 (fun hHeld => ?rr40))
    case hS40 => exact HSS.out _ (below_step FB37.out HX39.out)
    clear hK K
    (try simp only [PT])
    have FZ41 := Lib.hid (HZ35.out.later HX39.out)
    have FB41 := Lib.hid (below_step FB37.out HX39.out)
    clear hHeld
    have hHeld := HSS.out _ FB41.out
    refine wpAnyH_ready (rs := [7]) (by kernel_rfl) (by simp) (all_at 7 rfl (fun K hK => ?o42) AllReadyH.nil)
    case o42 =>
     go_simp
     refine (HC2.out _ FB41.out).mono ?_
     rintro ex y43 ⟨q2, m2, d2, rfl, hr, hb⟩
     have HX43 : Hid (Below y39.heap.size y39 y43) := Lib.hid hb
     have HR43 := Lib.hid hr
     clear hr hb
     (try dsimp only)
     first
      | refine hK.out _ _ ?hS44 (fun hHeld => ?rr44)
      | (go_wp2_with fail; refine hK.out _ _ ?hS44 (fun hHeld => ?rr44))
     case hS44 => exact HSS.out _ (below_step FB41.out HX43.out)
     clear hK K
     (try simp only [PT])
     have FR145 := Lib.hid (HR39.out.later HX43.out)
     have FZ45 := Lib.hid (FZ41.out.later HX43.out)
     have FB45 := Lib.hid (below_step FB41.out HX43.out)
     clear hHeld
     have hHeld := HSS.out _ FB45.out
     refine tk 10 rfl ?_;(try simp only [PT])
     refine ready_at 12 rfl (by kernel_rfl) (fun K hK => ?_)
     rw [if_pos (by rfl)]
     refine wp_store_row 32 _ _ rfl G #[.slice q1 m1 d1, .slice q2 m2 d2, .slice r l cr] rfl rfl 32 _ FZ45.out sizeSt rfl (by simp [Value.oneCell']) ?_
     have HZ46 := Lib.hid (FZ45.out.row (a' := .slice q1 m1 d1) (b' := .slice q2 m2 d2) (c' := .slice r l cr))
     have HP46 := Lib.hid (FR145.out.bySt FZ45.out ⟨rfl, rfl, rfl⟩ (keep_rowS (cs := #[.slice q1 m1 d1, .slice q2 m2 d2, .slice r l cr])))
     have HQ46 := Lib.hid (HR43.out.bySt FZ45.out ⟨rfl, rfl, rfl⟩ (keep_rowS (cs := #[.slice q1 m1 d1, .slice q2 m2 d2, .slice r l cr])))
     have HW46 := Lib.hid (below_setRow8 FB45.out G #[.slice q1 m1 d1, .slice q2 m2 d2, .slice r l cr] HGB.out)
     refine hK.out _ _ ?hS48 (fun hHeld => ?rr48)
     case hS48 => exact HSS.out _ HW46.out
     clear hK K
     (try simp only [PT])
     refine wpAnyH_done (by kernel_rfl) ?_ _
     go_wp2_with fail
     go_meet
     exact ⟨G, q1, m1, d1, q2, m2, d2, rfl, HZ46, HP46, HQ46, HGB, HW46⟩
 case rest =>
  obtain ⟨G, q1, m1, d1, q2, m2, d2, rfl, HSC, HR1, HR2, HGB, HBC⟩ := hcut
  obtain ⟨s0, s1, s2, _⟩ := HSS.out _ HBC.out
  obtain ⟨x0, x1, x2⟩ := HXC.out _ HBC.out
  obtain ⟨z0, z1, z2⟩ := HSC.out.cells
  have zf := HSC.out.frozen 2
  have HRL2 := Lib.hid (HRL.out _ HBC.out)
  have HNE : Hid (g2 ≠ G) := Lib.hid (Nat.ne_of_lt (Nat.lt_of_lt_of_le HG2L.out HGB.out))
  by_cases hK : 1 ≤ x.k ∧ x.k ≤ 5
  ·have HLE : Hid (applyL L x = loadP L x.seg x.len false) := Lib.hid (by unfold applyL; rw [if_pos hK])
   obtain ⟨k1, k2⟩ := hK
   generalize x.k = kk at *
   go_upto_region 4 with (go_at_call 44; refine HRL2.out.mono ?_; rintro e w5 ⟨v5, rfl, hg5, hb5⟩; have HG5 := Lib.hid hg5; have HB5 := Lib.hid hb5; obtain ⟨q5, d5, hv5, _⟩ := hg5.open; obtain ⟨m5, hm5⟩ : ∃ y, (ldL (loadP L x.seg x.len false)).length = y := ⟨_, rfl⟩; rw [hm5] at hv5; subst hv5; have HZ5 := Lib.hid (HSC.out.later hb5); have zf5 := HZ5.out.frozen 2; obtain ⟨y0, y1, y2⟩ := HZ5.out.cells; clear hg5 hb5 hm5)
   clear y0 y1 y2 zf5 s0 s1 s2 x0 x1 x2 z0 z1 z2 zf
   generalize hw6 : World.setCell _ _ _ = w6
   have HZ6 : Hid (Sg w6 G (.slice q1 m1 d1) (.slice q2 m2 d2) (.slice q5 m5 d5)) := Lib.hid (by rw [← hw6]; exact HZ5.out.set2 _)
   have HZ9 : Hid (Sg w6 g2 (.slice none 0 0) (.slice none 0 0) (.slice none 0 0)) := Lib.hid (by rw [← hw6]; exact (heap_setCell_other _ ⟨G, 2, none⟩ g2 _ HNE.out).trans ((HZR.out.later HBC.out).later HB5.out))
   have HR1b : Hid (EnR w6 w2.heap.size p n D (.slice q1 m1 d1) (applyE (peL D) x)) := Lib.hid (by rw [← hw6]; exact (HR1.out.later HB5.out).bySt HZ5.out ⟨rfl, rfl, rfl⟩ keep_cellS)
   have HR2b : Hid (TnR w6 w2.heap.size q m T (.slice q2 m2 d2) (applyT (ptL T) x)) := Lib.hid (by rw [← hw6]; exact (HR2.out.later HB5.out).bySt HZ5.out ⟨rfl, rfl, rfl⟩ keep_cellS)
   have HR3b : Hid (LoR w6 w2.heap.size r l (.slice q5 m5 d5) (loadP L x.seg x.len false)) := Lib.hid (by rw [← hw6]; exact ((LoR.gw HG5.out).mono HBC.out.size).bySt HZ5.out ⟨rfl, rfl, rfl⟩ keep_cellS)
   have HBE : Hid (Below w.heap.size w w6) := Lib.hid (by rw [← hw6]; exact (below_step HB.out (below_step HBC.out HB5.out)).setCell (Nat.le_trans (Nat.le_trans HB.out.size HGB.out) (Nat.le_refl _)) _)
   obtain ⟨y0, y1, y2⟩ := HZ6.out.cells
   clear hw6
   go_wp2_with (refine wpList_store_row rfl 32 _ _ rfl g2 #[.slice q1 m1 d1, .slice q2 m2 d2, .slice q5 m5 d5] rfl rfl 32 _ HZ9.out sizeSt rfl (by simp [Value.oneCell']) ?_; generalize hw9 : World.setRow _ _ _ = w9)
   have HZA : Sg w9 g2 (.slice q1 m1 d1) (.slice q2 m2 d2) (.slice q5 m5 d5) := by rw [← hw9]; exact HZ9.out.row
   refine bodyPost_ret (HZA.res1 rfl _ rfl) rfl ?_
   exact ⟨_, _, _, rfl, by rw [← hw9]; exact (HR1b.out.bySt HZ9.out ⟨rfl, rfl, rfl⟩ keep_rowS).mono HB.out.size, by rw [← hw9]; exact (HR2b.out.bySt HZ9.out ⟨rfl, rfl, rfl⟩ keep_rowS).mono HB.out.size, by rw [← hw9]; show LoR _ _ _ _ _ (applyL L x); rw [HLE.out]; exact (HR3b.out.bySt HZ9.out ⟨rfl, rfl, rfl⟩ keep_rowS).mono HB.out.size, by rw [← hw9]; exact below_setRow8 HBE.out _ _ HG2.out⟩
  ·have HNO : Hid (¬ (1 ≤ x.k ∧ x.k ≤ 5)) := Lib.hid hK
   have HLE : Hid (applyL L x = L) := Lib.hid (by unfold applyL; rw [if_neg HNO.out])
   have HZ9 := Lib.hid (HZR.out.later HBC.out)
   have HR1b := HR1; have HR2b := HR2
   have HR3b : Hid (LoR wc w2.heap.size r l (.slice r l cr) L) := Lib.hid (LoR.old (HL.out.later HBC.out))
   have HBE : Hid (Below w.heap.size w wc) := Lib.hid (below_step HB.out HBC.out)
   by_cases k1 : 1 ≤ x.k
   ·have k2 : ¬ x.k ≤ 5 := fun h => hK ⟨k1, h⟩
    clear hK
    generalize x.k = kk at *
    go_wp2_with (refine wpList_store_row rfl 32 _ _ rfl g2 #[.slice q1 m1 d1, .slice q2 m2 d2, .slice r l cr] rfl rfl 32 _ HZ9.out sizeSt rfl (by simp [Value.oneCell']) ?_; generalize hw9 : World.setRow _ _ _ = w9)
    have HZA : Sg w9 g2 (.slice q1 m1 d1) (.slice q2 m2 d2) (.slice r l cr) := by rw [← hw9]; exact HZ9.out.row
    refine bodyPost_ret (HZA.res1 rfl _ rfl) rfl ?_
    exact ⟨_, _, _, rfl, by rw [← hw9]; exact (HR1b.out.bySt HZ9.out ⟨rfl, rfl, rfl⟩ keep_rowS).mono HB.out.size, by rw [← hw9]; exact (HR2b.out.bySt HZ9.out ⟨rfl, rfl, rfl⟩ keep_rowS).mono HB.out.size, by rw [← hw9]; show LoR _ _ _ _ _ (applyL L x); rw [HLE.out]; exact (HR3b.out.bySt HZ9.out ⟨rfl, rfl, rfl⟩ keep_rowS).mono HB.out.size, by rw [← hw9]; exact below_setRow8 HBE.out _ _ HG2.out⟩
   ·clear hK
    generalize x.k = kk at *
    go_wp2_with (refine wpList_store_row rfl 32 _ _ rfl g2 #[.slice q1 m1 d1, .slice q2 m2 d2, .slice r l cr] rfl rfl 32 _ HZ9.out sizeSt rfl (by simp [Value.oneCell']) ?_; generalize hw9 : World.setRow _ _ _ = w9)
    have HZA : Sg w9 g2 (.slice q1 m1 d1) (.slice q2 m2 d2) (.slice r l cr) := by rw [← hw9]; exact HZ9.out.row
    refine bodyPost_ret (HZA.res1 rfl _ rfl) rfl ?_
    exact ⟨_, _, _, rfl, by rw [← hw9]; exact (HR1b.out.bySt HZ9.out ⟨rfl, rfl, rfl⟩ keep_rowS).mono HB.out.size, by rw [← hw9]; exact (HR2b.out.bySt HZ9.out ⟨rfl, rfl, rfl⟩ keep_rowS).mono HB.out.size, by rw [← hw9]; show LoR _ _ _ _ _ (applyL L x); rw [HLE.out]; exact (HR3b.out.bySt HZ9.out ⟨rfl, rfl, rfl⟩ keep_rowS).mono HB.out.size, by rw [← hw9]; exact below_setRow8 HBE.out _ _ HG2.out⟩
end Go.Proofs.YtpfbfhigelbfcaaGreat

