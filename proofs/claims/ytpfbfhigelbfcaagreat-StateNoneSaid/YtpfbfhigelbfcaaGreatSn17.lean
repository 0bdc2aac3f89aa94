/- Layer 22: a state of the reference as it lies in memory; The reference of layer 22: Keep. (gen_starg.py); The reference of layer 22: New. (gen_starh.py); The reference of layer 22: Is. (gen_stari.py); Layer 22: what the laws want of package state; Layer 22, the laws: lives, under what is said of package state; Layer 22, the law: a nil state has nothing, under what is said of package state. (gen_st -/
import Derived.Test.YtpfbfhigelbfcaaGreatSn1
import Derived.Test.YtpfbfhigelbfcaaGreatSn3
import Derived.Test.YtpfbfhigelbfcaaGreatSn7
import Derived.Test.YtpfbfhigelbfcaaGreatSn10
import Derived.Test.YtpfbfhigelbfcaaGreatSn11
import Derived.Test.YtpfbfhigelbfcaaGreatSn12
import Derived.Test.YtpfbfhigelbfcaaGreatSn16
set_option linter.unusedSimpArgs false
set_option linter.unusedVariables false
namespace Go.Proofs.YtpfbfhigelbfcaaGreat
open Go.RowKit Go.Lib
theorem Gw.own {α : Type} {E : Ec α} {W : World} {B : Nat} {q : Option Addr} {m d : Nat} {o : List α} (h : Gw E W B (.slice q m d) o) : ∀ b off, q = some ⟨b, off, none⟩ → B ≤ b := fun b off e => (Gw.own_lt h (by rw [e]; rfl)).1
/-- a row of entries: an old one, or one from block B on; what lies in it too -/
def EnR (W : World) (B : Nat) (p : Option Addr) (n : Nat) (L : List Ex) (v : Value) (D : List Pe) : Prop :=
  ∃ q m d o, v = .slice q m d ∧ peL o = D ∧ Gs encEn W q m o ∧ ((q = p ∧ m = n) ∨ ∀ b off, q = some ⟨b, off, none⟩ → B ≤ b) ∧ ∀ y ∈ o, y ∈ L ∨ dok y.e.dg ∧ Gw encI W B y.s y.e.ins
def TnR (W : World) (B : Nat) (p : Option Addr) (n : Nat) (L : List Tx) (v : Value) (D : List Pt) : Prop :=
  ∃ q m d o, v = .slice q m d ∧ ptL o = D ∧ Gs encTn W q m o ∧ ((q = p ∧ m = n) ∨ ∀ b off, q = some ⟨b, off, none⟩ → B ≤ b) ∧ ∀ y ∈ o, y ∈ L ∨ dok y.e.dg ∧ Gw encI W B y.s y.e.ins
def LoR (W : World) (B : Nat) (p : Option Addr) (n : Nat) (v : Value) (l : List (Int × Int)) : Prop :=
  ∃ q m d, v = .slice q m d ∧ Gs encLo W q m (ldL l) ∧ ((q = p ∧ m = n) ∨ ∀ b off, q = some ⟨b, off, none⟩ → B ≤ b)
theorem EnR.later {W V : World} {B : Nat} {p : Option Addr} {n : Nat} {L : List Ex} {v : Value} {D : List Pe} (h : EnR W B p n L v D) (hb : Below W.heap.size W V) : EnR V B p n L v D := by
  obtain ⟨q, m, d, o, h1, h2, h3, h4, h5⟩ := h
  exact ⟨q, m, d, o, h1, h2, h3.later hb, h4, fun y hy => (h5 y hy).imp id fun h => ⟨h.1, h.2.later hb⟩⟩
theorem TnR.later {W V : World} {B : Nat} {p : Option Addr} {n : Nat} {L : List Tx} {v : Value} {D : List Pt} (h : TnR W B p n L v D) (hb : Below W.heap.size W V) : TnR V B p n L v D := by
  obtain ⟨q, m, d, o, h1, h2, h3, h4, h5⟩ := h
  exact ⟨q, m, d, o, h1, h2, h3.later hb, h4, fun y hy => (h5 y hy).imp id fun h => ⟨h.1, h.2.later hb⟩⟩
theorem LoR.later {W V : World} {B : Nat} {p : Option Addr} {n : Nat} {v : Value} {l : List (Int × Int)} (h : LoR W B p n v l) (hb : Below W.heap.size W V) : LoR V B p n v l := by
  obtain ⟨q, m, d, h1, h2, h3⟩ := h
  exact ⟨q, m, d, h1, h2.later hb, h3⟩
theorem EnR.mono {W : World} {B B' : Nat} {p : Option Addr} {n : Nat} {L : List Ex} {v : Value} {D : List Pe} (h : EnR W B p n L v D) (hB : B' ≤ B) : EnR W B' p n L v D := by
  obtain ⟨q, m, d, o, h1, h2, h3, h4, h5⟩ := h
  exact ⟨q, m, d, o, h1, h2, h3, h4.imp id fun h b off e => Nat.le_trans hB (h b off e), fun y hy => (h5 y hy).imp id fun h => ⟨h.1, h.2.mono hB⟩⟩
theorem TnR.mono {W : World} {B B' : Nat} {p : Option Addr} {n : Nat} {L : List Tx} {v : Value} {D : List Pt} (h : TnR W B p n L v D) (hB : B' ≤ B) : TnR W B' p n L v D := by
  obtain ⟨q, m, d, o, h1, h2, h3, h4, h5⟩ := h
  exact ⟨q, m, d, o, h1, h2, h3, h4.imp id fun h b off e => Nat.le_trans hB (h b off e), fun y hy => (h5 y hy).imp id fun h => ⟨h.1, h.2.mono hB⟩⟩
theorem LoR.mono {W : World} {B B' : Nat} {p : Option Addr} {n : Nat} {v : Value} {l : List (Int × Int)} (h : LoR W B p n v l) (hB : B' ≤ B) : LoR W B' p n v l := by
  obtain ⟨q, m, d, h1, h2, h3⟩ := h
  exact ⟨q, m, d, h1, h2, h3.imp id fun h b off e => Nat.le_trans hB (h b off e)⟩
theorem LoR.old {W : World} {B : Nat} {p : Option Addr} {n c : Nat} {l : List (Int × Int)} (h : Gs encLo W p n (ldL l)) : LoR W B p n (.slice p n c) l := ⟨p, n, c, rfl, h, Or.inl ⟨rfl, rfl⟩⟩
theorem LoR.gw {W : World} {B : Nat} {p : Option Addr} {n : Nat} {v : Value} {l : List (Int × Int)} (h : Gw encLo W B v (ldL l)) : LoR W B p n v l := by
  obtain ⟨q, c, rfl, _⟩ := h.open
  exact ⟨q, _, c, rfl, h.gs, Or.inr h.own⟩
def SlQ (R : World → Value → Prop) (W : World) (e : Ending) (w' : World) : Prop := ∃ q m d, e = .returned (.slice q m d) ∧ R w' (.slice q m d) ∧ Below W.heap.size W w'
theorem AppQ.r {w w' : World} {p : Option Addr} {n c : Nat} {L : List Ex} {x : Wq} {e : Ending} (h : AppQ w p n c L x e w') {B : Nat} (hB : B ≤ w.heap.size) : SlQ (fun W v => EnR W B p n L v (applyE (peL L) x)) w e w' := by
  obtain ⟨q, m, d, o, h1, h2, h3, h4, h5, _, h6⟩ := h
  exact ⟨q, m, d, h1, EnR.mono ⟨q, m, d, o, rfl, h2, h3, h4, h5⟩ hB, h6⟩
theorem AppTQ.r {w w' : World} {p : Option Addr} {n c : Nat} {L : List Tx} {x : Wq} {e : Ending} (h : AppTQ w p n c L x e w') {B : Nat} (hB : B ≤ w.heap.size) : SlQ (fun W v => TnR W B p n L v (applyT (ptL L) x)) w e w' := by
  obtain ⟨q, m, d, o, h1, h2, h3, h4, h5, _, h6⟩ := h
  exact ⟨q, m, d, h1, TnR.mono ⟨q, m, d, o, rfl, h2, h3, h4, h5⟩ hB, h6⟩
theorem KepQ.r {w w' : World} {L : List Ex} {b : List Int} {e : Ending} (h : KepQ w L b e w') {B : Nat} (hB : B ≤ w.heap.size) : SlQ (fun W v => EnR W B none 0 [] v (keepR (peL L) b)) w e w' := by
  obtain ⟨v, o, h1, h2, h3, h4, h5⟩ := h
  obtain ⟨q, c, rfl, _⟩ := h3.open
  exact ⟨q, _, c, h1, EnR.mono ⟨q, _, c, o, rfl, h2, h3.gs, Or.inr h3.own, fun y hy => Or.inr (h4 y hy)⟩ hB, h5⟩
theorem KepTQ.r {w w' : World} {L : List Tx} {b : List Int} {e : Ending} (h : KepTQ w L b e w') {B : Nat} (hB : B ≤ w.heap.size) : SlQ (fun W v => TnR W B none 0 [] v (keepTs (ptL L) b)) w e w' := by
  obtain ⟨v, o, h1, h2, h3, h4, h5⟩ := h
  obtain ⟨q, c, rfl, _⟩ := h3.open
  exact ⟨q, _, c, h1, TnR.mono ⟨q, _, c, o, rfl, h2, h3.gs, Or.inr h3.own, fun y hy => Or.inr (h4 y hy)⟩ hB, h5⟩
theorem NewQ.r {w w' : World} {L : List Ex} {e : Ending} (h : NewQ w L e w') {B : Nat} (hB : B ≤ w.heap.size) : SlQ (fun W v => EnR W B none 0 L v (newE (peL L))) w e w' := by
  obtain ⟨v, o, h1, h2, h3, h4, h5⟩ := h
  obtain ⟨q, c, rfl, _⟩ := h3.open
  exact ⟨q, _, c, h1, EnR.mono ⟨q, _, c, o, rfl, h2, h3.gs, Or.inr h3.own, fun y hy => Or.inl (h4 y hy)⟩ hB, h5⟩
theorem NewTQ.r {w w' : World} {L : List Tx} {e : Ending} (h : NewTQ w L e w') {B : Nat} (hB : B ≤ w.heap.size) : SlQ (fun W v => TnR W B none 0 L v (newT (ptL L))) w e w' := by
  obtain ⟨v, o, h1, h2, h3, h4, h5⟩ := h
  obtain ⟨q, c, rfl, _⟩ := h3.open
  exact ⟨q, _, c, h1, TnR.mono ⟨q, _, c, o, rfl, h2, h3.gs, Or.inr h3.own, fun y hy => Or.inl (h4 y hy)⟩ hB, h5⟩
/-- block G holds a state -/
def Sg (W : World) (G : Nat) (a b c : Value) : Prop := W.heap[G]? = some (.cells #[a, b, c] 32 (0, 0))
theorem Sg.later {W V : World} {G : Nat} {a b c : Value} (h : Sg W G a b c) (hb : Below W.heap.size W V) : Sg V G a b c := obj_later h hb
theorem Sg.lt {W : World} {G : Nat} {a b c : Value} (h : Sg W G a b c) : G < W.heap.size := (Array.getElem?_eq_some_iff.1 h).1
theorem Sg.cells {W : World} {G : Nat} {a b c : Value} (h : Sg W G a b c) : W.cell? ⟨G, 0, none⟩ = some a ∧ W.cell? ⟨G, 1, none⟩ = some b ∧ W.cell? ⟨G, 2, none⟩ = some c :=
  ⟨cell_of_row _ _ 0 _ _ _ h, cell_of_row _ _ 1 _ _ _ h, cell_of_row _ _ 2 _ _ _ h⟩
theorem Sg.frozen {W : World} {G : Nat} {a b c : Value} (h : Sg W G a b c) (j : Nat) : W.frozen? ⟨G, j, none⟩ = false := frozen_of_row W G j _ _ h
theorem Sg.set2 {W : World} {G : Nat} {a b c : Value} (h : Sg W G a b c) (u : Value) : Sg (W.setCell ⟨G, 2, none⟩ u) G a b u := heap_setCell_same W G 2 _ _ _ h
theorem Sg.row {W : World} {G : Nat} {a b c a' b' c' : Value} (h : Sg W G a b c) : Sg (W.setRow G #[a', b', c']) G a' b' c' := setRow_heap _ _ _ _ _ _ h
theorem sizeSt : (Tryz.prog.info? 32).map (·.size) = some 3 := by kernel_rfl
theorem Sg.res1 {fn : Func} {p : Tmp} {w : World} {g : Nat} {a b c : Value} (hg : Sg w g a b c) (h : fn.results = #[.cell p 32]) (tmps : Array Value)
    (hp : tmps.getD p undef = .pointer (some ⟨g, 0, none⟩)) : (Go.results fn tmps).run Tryz.prog w = .ok (.agg #[a, b, c]) w :=
  results_cell_row h tmps w g _ _ _ _ hp hg Tryz.underlying32 rfl sizeSt
/-- amid Keep's loop: block G turns alone, and new ones come -/
structure KsI (w2 wc W : World) (G : Nat) (a b v : Value) (o : List (Int × Int)) : Prop where
  z : Sg W G a b v
  g : Gw encLo W wc.heap.size v (ldL o)
  c : Chg (fun b => b = G) wc W
  le : Below w2.heap.size w2 W
theorem KsI.put {w2 wc W V : World} {G : Nat} {a b v u : Value} {o o' : List (Int × Int)} (h : KsI w2 wc W G a b v o) (hB : Below wc.heap.size W V) (hg : Gw encLo V wc.heap.size u (ldL o')) (hG : G < wc.heap.size) (h2 : w2.heap.size ≤ G) (hu : ∀ b, u.ownBlock = some b → b ≠ G) : KsI w2 wc (V.setCell ⟨G, 2, none⟩ u) G a b u o' :=
  ⟨Sg.set2 (show Sg V G a b v from (hB.block G hG).trans h.z) u, hg.setOther hu,
   h.c.tr (S' := fun b => b = G ∨ wc.heap.size ≤ b) ⟨hB.os, hB.tape, hB.output, by rw [World.size_setCell]; exact hB.size, fun k hk hn => by
      rw [heap_setCell_other V ⟨G, 2, none⟩ k u (fun e => hn (Or.inl e))]
      exact hB.block k (Nat.lt_of_not_le fun h => hn (Or.inr h))⟩ (fun b hb => hb),
   (h.le.trans (hB.mono (Nat.le_trans h2 (Nat.le_of_lt hG)))).setCell h2 _⟩
/-- loads, without what lives -/
def psL (K : List (Int × Int × Int)) : List (Int × Int) := K.map fun x => (x.1, x.2.1)
/-- a snapshot -/
def SnC (a b c e : Int) (u v x : Value) : Array Value := #[.int .i64 a, .int .i64 b, .int .i64 c, .int .u64 e, u, v, x]
section
variable (Sx : World → (Nat → Prop) → (Nat → Prop) → Value → Ps → Prop)
/-- a state that is made -/
def NewSQ (w : World) (N : Nat → Prop) (x : Ps) (e : Ending) (w' : World) : Prop := ∃ v S F, e = .returned v ∧ Sx w' S F v x ∧ (∀ b, S b → w.heap.size ≤ b) ∧ (∀ b, F b → N b ∨ w.heap.size ≤ b) ∧ Below w.heap.size w w'
/-- a state that is turned -/
def OpSQ (w : World) (S F : Nat → Prop) (v : Value) (x : Ps) (e : Ending) (w' : World) : Prop := ∃ S' F', e = .returned (.tuple #[]) ∧ Sx w' S' F' v x ∧ Chg S w w' ∧ (∀ b, S' b → S b ∨ w.heap.size ≤ b) ∧ (∀ b, F' b → F b ∨ w.heap.size ≤ b)
end
/-- what is read lies in blocks of F, or in new ones -/
def In1 (w : World) (F : Nat → Prop) (p : Option Addr) (n : Nat) : Prop := n ≠ 0 → ∀ b off, p = some ⟨b, off, none⟩ → F b ∨ w.heap.size ≤ b
def SlOk (p : Option Addr) (n c : Nat) : Prop := (p = none → c = 0) ∧ n ≤ c ∧ c ≤ maxLen
def DigSQ (w : World) (F : Nat → Prop) (r : Pe × Bool) (e : Ending) (w' : World) : Prop := ∃ s, e = .returned (.tuple #[enV r.1 s, .bool r.2]) ∧ Is w' s r.1.ins ∧ (r.1.ins ≠ [] → ∀ b, s.ownBlock = some b → F b ∨ w.heap.size ≤ b) ∧ Below w.heap.size w w'
def TagSQ (w : World) (F : Nat → Prop) (r : Pt × Bool) (e : Ending) (w' : World) : Prop := ∃ s, e = .returned (.tuple #[tnV r.1 s, .bool r.2]) ∧ Is w' s r.1.ins ∧ (r.1.ins ≠ [] → ∀ b, s.ownBlock = some b → F b ∨ w.heap.size ≤ b) ∧ Below w.heap.size w w'
def HereSQ (w : World) (F : Nat → Prop) (l : List Wq) (e : Ending) (w' : World) : Prop := ∃ p n c o, e = .returned (.slice p n c) ∧ wxL o = l ∧ Gs encWd w' p n o ∧ In1 w F p n ∧ SlOk p n c ∧ Below w.heap.size w w'
def LoadSQ (w : World) (F : Nat → Prop) (l : List (Int × Int × Int)) (e : Ending) (w' : World) : Prop := ∃ p n c, e = .returned (.slice p n c) ∧ Gs encLo w' p n l ∧ In1 w F p n ∧ SlOk p n c ∧ Below w.heap.size w w'
def SnapSQ (w : World) (F : Nat → Prop) (x : Ps) (e : Ending) (w' : World) : Prop :=
  ∃ p n c D q m d T r l cr N, e = .returned (.agg (SnC 0 0 0 0 (.slice p n c) (.slice q m d) (.slice r l cr))) ∧ peL D = x.D ∧ ptL T = x.T ∧ ReN w' N p n D ∧ ReT w' N q m T ∧ Gs encLo w' r l (loadsP x) ∧ (∀ b, N b → F b ∨ w.heap.size ≤ b) ∧ In1 w F r l ∧ SlOk p n c ∧ SlOk q m d ∧ SlOk r l cr ∧ Below w.heap.size w w'
def ListSQ (w : World) (F : Nat → Prop) (L : List ByteArray) (e : Ending) (w' : World) : Prop := ∃ p n c, e = .returned (.slice p n c) ∧ Gs encS w' p n L ∧ In1 w F p n ∧ SlOk p n c ∧ Below w.heap.size w w'
def NamesSQ (w : World) (L : List (List Int)) (e : Ending) (w' : World) : Prop := ∃ p n c, e = .returned (.slice p n c) ∧ Ds w' p n L ∧ n ≤ maxLen ∧ Below w.heap.size w w'
/-- the numbers of a snapshot are numbers -/
structure SnR (D : List Ex) (T : List Tx) (K : List (Int × Int × Int)) : Prop where
  r : ∀ x ∈ K, -9223372036854775808 ≤ x.2.1 ∧ x.2.1 ≤ 9223372036854775807
  s : ∀ x ∈ K, Rgi x.1
  d : ∀ y ∈ peL D, y.In
  t : ∀ y ∈ ptL T, y.In
theorem SnR.nil : SnR [] [] [] := ⟨fun x h => (by cases h), fun x h => (by cases h), fun x h => (by cases h), fun x h => (by cases h)⟩
/-- not so much of it that numbers run over -/
structure Ps.Few (x : Ps) : Prop where
  n : x.D.length + x.T.length ≤ 1048576
  l : x.L.length ≤ 1048576
  i : insLe x.D 2097151
  j : insLeT x.T 2097151
/-- Sx w S F v x: in w, v is a state that holds x; its own blocks are those of S, what it reads besides lies in those of F -/
structure StOk (Sx : World → (Nat → Prop) → (Nat → Prop) → Value → Ps → Prop) : Prop where
  keep : ∀ {w w' : World} {S F : Nat → Prop} {v : Value} {x : Ps}, Sx w S F v x → (∀ b, S b ∨ F b → w'.heap[b]? = w.heap[b]?) → w.heap.size ≤ w'.heap.size → Sx w' S F v x
  lt : ∀ {w : World} {S F : Nat → Prop} {v : Value} {x : Ps}, Sx w S F v x → ∀ b, S b ∨ F b → b < w.heap.size
  dis : ∀ {w : World} {S F : Nat → Prop} {v : Value} {x : Ps}, Sx w S F v x → ∀ b, S b → ¬ F b
  ok : ∀ {w : World} {S F : Nat → Prop} {v : Value} {x : Ps}, Sx w S F v x → x.Ok ∧ (∀ y ∈ x.D, dok y.dg) ∧ (∀ y ∈ x.T, dok y.dg) ∧ x.In
  new : ∀ {w : World} {N : Nat → Prop} {a b c' e : Int} {p q r : Option Addr} {n c m d l cr : Nat} {D : List Ex} {T : List Tx} {K : List (Int × Int × Int)}, ReN w N p n D → ReT w N q m T → Gs encLo w r l K → SlOk p n c → SlOk q m d → SlOk r l cr → SnR D T K → n + m ≤ 1048576 → l ≤ 1048576 → insLe (peL D) 2097151 → insLeT (ptL T) 2097151 →
    Calls Tryz.prog 8 #[.agg (SnC a b c' e (.slice p n c) (.slice q m d) (.slice r l cr))] w fun e w' => NewSQ Sx w N (newS (peL D) (ptL T) (psL K)) e w'
  apply : ∀ {w : World} {S F : Nat → Prop} {v : Value} {x : Ps} (y : Wq), Sx w S F v x → dok y.dg → y.In → x.Few → Calls Tryz.prog 10 #[v, y.v] w fun e w' => OpSQ Sx w S F v (applyS x y) e w'
  keepS : ∀ {w : World} {S F : Nat → Prop} {v u : Value} {x : Ps} {B : List Int}, Sx w S F v x → Is w u B → (B ≠ [] → ∀ b, u.ownBlock = some b → ¬ S b) → B.length ≤ 2097152 → (∀ b ∈ B, Rgi b) → x.Few → Calls Tryz.prog 12 #[v, u] w fun e w' => OpSQ Sx w S F v (keepS x B) e w'
  digest : ∀ {w : World} {S F : Nat → Prop} {v : Value} {x : Ps} (d : List Int), Sx w S F v x → dok d → Calls Tryz.prog 23 #[v, .agg (bcs d)] w fun e w' => DigSQ w F (getR x.D d) e w'
  tag : ∀ {w : World} {S F : Nat → Prop} {v : Value} {x : Ps} (s : ByteArray), Sx w S F v x → Calls Tryz.prog 25 #[v, .string s] w fun e w' => TagSQ w F (getTR x.T s) e w'
  here : ∀ {w : World} {S F : Nat → Prop} {v : Value} {x : Ps} (s : Int), Sx w S F v x → x.Few → Calls Tryz.prog 17 #[v, .int .i64 s] w fun e w' => HereSQ w F (hereP x s) e w'
  loads : ∀ {w : World} {S F : Nat → Prop} {v : Value} {x : Ps}, Sx w S F v x → x.Few → Calls Tryz.prog 20 #[v] w fun e w' => LoadSQ w F (loadsP x) e w'
  snapshot : ∀ {w : World} {S F : Nat → Prop} {v : Value} {x : Ps}, Sx w S F v x → x.Few → Calls Tryz.prog 15 #[v] w fun e w' => SnapSQ w F x e w'
  list : ∀ {w : World} {S F : Nat → Prop} {v : Value} {x : Ps} (s : ByteArray) (n : Int), Sx w S F v x → x.Few → -9223372036854775808 ≤ n → n ≤ 9223372036854775807 → Calls Tryz.prog 35 #[v, .string s, .int .i64 n] w fun e w' => ListSQ w F (listT x.T s n) e w'
  names : ∀ {w : World} {S F : Nat → Prop} {v : Value} {x : Ps}, Sx w S F v x → x.Few → Calls Tryz.prog 33 #[v] w fun e w' => NamesSQ w (namesT x.T) e w'
  count : ∀ {w : World} {S F : Nat → Prop} {v : Value} {x : Ps}, Sx w S F v x → x.Few → Calls Tryz.prog 27 #[v] w fun e w' => e = .returned (.tuple #[.int .i64 (cntE x.D : Int), .int .i64 (IntKind.i64.wrap (sumE x.D)), .int .i64 ((namesT x.T).length : Int)]) ∧ Below w.heap.size w w'
theorem StOk.later {Sx : World → (Nat → Prop) → (Nat → Prop) → Value → Ps → Prop} (hT : StOk Sx) {w w' : World} {S F : Nat → Prop} {v : Value} {x : Ps} (h : Sx w S F v x) (hb : Below w.heap.size w w') : Sx w' S F v x :=
  hT.keep h (fun b hb2 => hb.block b (hT.lt h b hb2)) hb.size
theorem reN_none0 (w : World) : ReN w (fun _ => False) none 0 [] := ⟨Gs.empty _ _ _, fun h => absurd rfl h, (fun x h => by cases h), (fun x h => by cases h), (fun x h => by cases h), fun b h => h.elim⟩
theorem reT_none0 (w : World) : ReT w (fun _ => False) none 0 [] := ⟨Gs.empty _ _ _, fun h => absurd rfl h, (fun x h => by cases h), (fun x h => by cases h), (fun x h => by cases h), fun b h => h.elim⟩
theorem SlOk.nil : SlOk none 0 0 := ⟨fun _ => rfl, Nat.le_refl _, by unfold maxLen; decide⟩
def wdX : Wq := ⟨1, 0, lvS, ⟨#[]⟩, 9, 1, 37, 62⟩
def wdY : Wq := ⟨5, 0, lvS, ⟨#[]⟩, 0, 2, 37, 53⟩
theorem built_lc3 (a b c : Int) : Tryz.prog.built 37 [(0, .int .i64 a), (1, .int .i64 b), (2, .int .i64 c)] = some (lcA a b c) := by kernel_rfl
theorem built_wdX : Tryz.prog.built 39 [(0, .int .i64 1), (2, .agg (bcs lvS)), (4, .int .i64 9), (5, .agg (lcA 1 37 62))] = some (mixC wdX.a wdX.dg wdX.t) := by kernel_rfl
theorem built_wdY : Tryz.prog.built 39 [(0, .int .i64 5), (2, .agg (bcs lvS)), (5, .agg (lcA 2 37 53))] = some (mixC wdY.a wdY.dg wdY.t) := by kernel_rfl
def s1L : Ps := ⟨[⟨lvS, 1, 9, 1, 37, 62, [1]⟩], [], [(1, 62)]⟩
def s2L : Ps := ⟨[⟨lvS, 5, 0, 2, 37, 53, [1]⟩], [], [(1, 62), (2, 53)]⟩
theorem lv1 : applyS (newS (peL []) (ptL []) (psL [])) wdX = s1L := rfl
theorem lv2 : applyS s1L wdY = s2L := rfl
theorem lvH1 : hereP s2L 1 = [] := rfl
theorem lvH2 : (hereP s2L 2).length = 1 := rfl
theorem lvLo : loadsP s2L = [(1, 62, 0), (2, 53, 53)] := rfl
theorem few0 : (newS (peL []) (ptL []) (psL [])).Few := ⟨by decide, by decide, (fun x h => by cases h), (fun x h => by cases h)⟩
theorem few1 : s1L.Few := ⟨by decide, by decide, (fun x h => by rw [show s1L.D = [_] from rfl, List.mem_singleton] at h; rw [h]; decide), (fun x h => by cases h)⟩
theorem few2 : s2L.Few := ⟨by decide, by decide, (fun x h => by rw [show s2L.D = [_] from rfl, List.mem_singleton] at h; rw [h]; decide), (fun x h => by cases h)⟩
set_option maxRecDepth 100000 in
set_option maxHeartbeats 1000000 in
theorem lives22_any {Sx : World → (Nat → Prop) → (Nat → Prop) → Value → Ps → Prop} (hT : StOk Sx) (w : World) : Calls Tryz.prog 22 #[] w fun e w' => e = .returned (.bool true) ∧ Below w.heap.size w w' := by
  have HT := Lib.hid hT
  have HNW := Lib.hid (hT.new (a := 0) (b := 0) (c' := 0) (e := 0) (n := 0) (c := 0) (m := 0) (d := 0) (l := 0) (cr := 0) (D := []) (T := []) (K := []) (reN_none0 w) (reT_none0 w) (Gs.empty encLo w none) SlOk.nil SlOk.nil SlOk.nil SnR.nil (by omega) (by omega) (fun x h => absurd h List.not_mem_nil) (fun x h => absurd h List.not_mem_nil))
  unfold SnC at HNW
  clear hT
  go_enter Tryz.func22, Tryz.ntmps22
  go_upto_region 2 with (go_at_call 8; refine HNW.out.mono ?_; rintro e w1 ⟨v, S, F, rfl, hx1, hs1, hf1, hb1⟩; have HX1 := Lib.hid hx1; have HS1 := Lib.hid hs1; have HB1 := Lib.hid hb1; clear hx1 hs1 hf1 hb1)
  have HAP := Lib.hid (HT.out.apply wdX HX1.out lvS_ok ⟨⟨by decide, by decide⟩, ⟨by decide, by decide⟩⟩ few0)
  rw [lv1] at HAP
  go_upto_region 3 with (first
    | (refine wpList_build_is rfl 35 _ rfl (bcs lvS) ?_ ?_; focus (first | exact built_dg1 | kernel_rfl))
    | (refine wpList_build_is rfl 37 _ rfl (lcA 1 37 62) ?_ ?_; focus (first | exact built_lc3 1 37 62 | kernel_rfl))
    | (refine wpList_build_is rfl 39 _ rfl (mixC wdX.a wdX.dg wdX.t) ?_ ?_; focus (first | exact built_wdX | kernel_rfl))
    | (go_at_call 10; refine HAP.out.mono ?_; rintro e w2 ⟨S2, F2, rfl, hx2, hc2, hs2, hf2⟩; have HX2 := Lib.hid hx2; have HB2 : Hid (Below w.heap.size w w2) := Lib.hid (HB1.out.trans (hc2.below HS1.out HB1.out.size)); have HS2 : Hid (∀ b, S2 b → w.heap.size ≤ b) := Lib.hid (fun b hb => (hs2 b hb).elim (HS1.out b) (fun h => Nat.le_trans HB1.out.size h)); clear hx2 hc2 hs2 hf2))
  have HAQ := Lib.hid (HT.out.apply wdY HX2.out lvS_ok ⟨⟨by decide, by decide⟩, ⟨by decide, by decide⟩⟩ few1)
  rw [lv2] at HAQ
  go_upto_region 4 with (first
    | (refine wpList_build_is rfl 35 _ rfl (bcs lvS) ?_ ?_; focus (first | exact built_dg1 | kernel_rfl))
    | (refine wpList_build_is rfl 37 _ rfl (lcA 2 37 53) ?_ ?_; focus (first | exact built_lc3 2 37 53 | kernel_rfl))
    | (refine wpList_build_is rfl 39 _ rfl (mixC wdY.a wdY.dg wdY.t) ?_ ?_; focus (first | exact built_wdY | kernel_rfl))
    | (go_at_call 10; refine HAQ.out.mono ?_; rintro e w3 ⟨S3, F3, rfl, hx3, hc3, hs3, hf3⟩; have HX3 := Lib.hid hx3; have HB3 : Hid (Below w.heap.size w w3) := Lib.hid (HB2.out.trans (hc3.below HS2.out HB2.out.size)); clear hx3 hc3 hs3 hf3))
  have HLO := Lib.hid (HT.out.loads HX3.out few2)
  rw [lvLo] at HLO
  go_upto_region 5 with (go_at_call 20; refine HLO.out.mono ?_; rintro e w4 ⟨p4, n4, c4, rfl, hg4, _, _, hb4⟩; have HX4 := Lib.hid (HT.out.later HX3.out hb4); have HG4 := Lib.hid hg4; have HB4 := Lib.hid (below_step HB3.out hb4); have HL4 := Lib.hid hg4.len; clear hg4 hb4)
  obtain rfl : n4 = 2 := HL4.out.symm
  have HH1 := Lib.hid (HT.out.here 1 HX4.out few2)
  rw [lvH1] at HH1
  have HH2 := Lib.hid fun W (hW : Below w4.heap.size w4 W) => HT.out.here 2 (HT.out.later HX4.out hW) few2
  obtain ⟨b, off, rfl, _⟩ := HG4.out.lo 0 (by decide)
  have HCE : Hid (∀ W, Below w4.heap.size w4 W → W.cell? ⟨b, off, none⟩ = some (.int .i64 1) ∧ W.cell? ⟨b, off + 1, none⟩ = some (.int .i64 62) ∧ W.cell? ⟨b, off + 2, none⟩ = some (.int .i64 0) ∧ W.cell? ⟨b, off + 3, none⟩ = some (.int .i64 2) ∧ W.cell? ⟨b, off + 4, none⟩ = some (.int .i64 53) ∧ W.cell? ⟨b, off + 5, none⟩ = some (.int .i64 53)) := Lib.hid fun W hW => by
    obtain ⟨b2, off2, hp2, e0, e1, e2⟩ := (HG4.out.later hW).lo 0 (by decide)
    simp only [Option.some.injEq, Addr.mk.injEq, and_true] at hp2
    obtain ⟨rfl, rfl⟩ := hp2
    obtain ⟨b2, off2, hp2, f0, f1, f2⟩ := (HG4.out.later hW).lo 1 (by decide)
    simp only [Option.some.injEq, Addr.mk.injEq, and_true] at hp2
    obtain ⟨rfl, rfl⟩ := hp2
    exact ⟨e0, e1, e2, f0, f1, f2⟩
  have HR0 : Hid (∀ W, Below w4.heap.size w4 W → (Instr.loadAt 97 (.pointer (some ⟨b, off, none⟩))).run Tryz.prog W = .ok (.agg #[.int .i64 1, .int .i64 62, .int .i64 0]) W) := Lib.hid fun W hW => run_loadAt_mid W b off 97 [.int .i64 1, .int .i64 62, .int .i64 0] _ (fun i v hv => by
    obtain ⟨c0, c1, c2, _⟩ := HCE.out W hW
    match i, hv with
    | 0, hv => rw [← hv]; exact c0
    | 1, hv => rw [← hv]; exact c1
    | 2, hv => rw [← hv]; exact c2
    | n + 3, hv => simp at hv) Tryz.underlying97 rfl (by kernel_rfl)
  have HR1 : Hid (∀ W, Below w4.heap.size w4 W → (Instr.loadAt 97 (.pointer (some ⟨b, off + 3, none⟩))).run Tryz.prog W = .ok (.agg #[.int .i64 2, .int .i64 53, .int .i64 53]) W) := Lib.hid fun W hW => run_loadAt_mid W b (off + 3) 97 [.int .i64 2, .int .i64 53, .int .i64 53] _ (fun i v hv => by
    obtain ⟨_, _, _, c0, c1, c2⟩ := HCE.out W hW
    match i, hv with
    | 0, hv => rw [← hv]; exact c0
    | 1, hv => rw [← hv]; exact c1
    | 2, hv => rw [← hv]; exact c2
    | n + 3, hv => simp at hv) Tryz.underlying97 rfl (by kernel_rfl)
  have hq1 := fun W => lo_eq 1 62 0 W
  have hq2 := fun W => lo_eq 2 53 53 W
  clear HCE
  go_wp2_with (first
    | (go_at_call 17; refine (HH2.out _ HB45.out).mono ?_; rintro e w6 ⟨p6, n6, c6, o6, rfl, he6, hg6, _, _, hb6⟩; have HB6 := Lib.hid (below_step HB5.out hb6); have hz6 : n6 = 1 := (by have h1 := hg6.len; rw [← wxL_length, he6, lvH2] at h1; exact h1.symm); subst hz6; have HRA := Lib.hid (HR0.out w6 (below_step HB45.out hb6)); have HRB := Lib.hid (HR1.out w6 (below_step HB45.out hb6)); clear hg6 he6 hb6)
    | (go_at_call 17; refine HH1.out.mono ?_; rintro e w5 ⟨p5, n5, c5, o5, rfl, he5, hg5, _, _, hb5⟩; have HB5 := Lib.hid (below_step HB4.out hb5); have HB45 := Lib.hid hb5; have HN5 := Lib.hid hg5.len; have hz5 : n5 = 0 := (by have h1 := hg5.len; rw [← wxL_length, he5] at h1; exact h1.symm); subst hz5; clear hg5 he5 hb5)
    | (refine wpList_wanted (by rfl) fun K hK => wp_ld 97 _ rfl _ rfl _ HRA.out (hK _ _ ?_); clear hK K)
    | (refine wpList_wanted (by rfl) fun K hK => wp_ld 97 _ rfl _ rfl _ HRB.out (hK _ _ ?_); clear hK K))
  go_ret
  exact ⟨rfl, HB6.out⟩
/-- the methods of a nil state -/
structure StNil : Prop where
  apply : ∀ (w : World) (x : Wq), dok x.dg → Calls Tryz.prog 10 #[.pointer none, x.v] w fun e w' => e = .returned (.tuple #[]) ∧ Below w.heap.size w w'
  keepS : ∀ (w : World) (u : Value) (B : List Int), Is w u B → Calls Tryz.prog 12 #[.pointer none, u] w fun e w' => e = .returned (.tuple #[]) ∧ Below w.heap.size w w'
  digest : ∀ (w : World) (d : List Int), dok d → Calls Tryz.prog 23 #[.pointer none, .agg (bcs d)] w fun e w' => e = .returned (.tuple #[enV zeroE (.slice none 0 0), .bool false]) ∧ Below w.heap.size w w'
  tag : ∀ (w : World) (s : ByteArray), Calls Tryz.prog 25 #[.pointer none, .string s] w fun e w' => e = .returned (.tuple #[tnV zeroT (.slice none 0 0), .bool false]) ∧ Below w.heap.size w w'
  count : ∀ (w : World), Calls Tryz.prog 27 #[.pointer none] w fun e w' => e = .returned (.tuple #[.int .i64 0, .int .i64 0, .int .i64 0]) ∧ Below w.heap.size w w'
  snapshot : ∀ (w : World), Calls Tryz.prog 15 #[.pointer none] w fun e w' => e = .returned (.agg (SnC 0 0 0 0 (.slice none 0 0) (.slice none 0 0) (.slice none 0 0))) ∧ Below w.heap.size w w'
  here : ∀ (w : World) (s : Int), Calls Tryz.prog 17 #[.pointer none, .int .i64 s] w fun e w' => e = .returned (.slice none 0 0) ∧ Below w.heap.size w w'
  loads : ∀ (w : World), Calls Tryz.prog 20 #[.pointer none] w fun e w' => e = .returned (.slice none 0 0) ∧ Below w.heap.size w w'
  list : ∀ (w : World) (s : ByteArray) (n : Int), Calls Tryz.prog 35 #[.pointer none, .string s, .int .i64 n] w fun e w' => e = .returned (.slice none 0 0) ∧ Below w.heap.size w w'
  names : ∀ (w : World), Calls Tryz.prog 33 #[.pointer none] w fun e w' => e = .returned (.slice none 0 0) ∧ Below w.heap.size w w'
theorem sizeSn : (Tryz.prog.info? 27).map (·.size) = some 7 := by kernel_rfl
set_option maxRecDepth 100000 in
set_option maxHeartbeats 2000000 in
theorem statenone_any {Sx : World → (Nat → Prop) → (Nat → Prop) → Value → Ps → Prop} (hT : StOk Sx) (hN : StNil) (x : Wq) (u : Value) (B : List Int) (w : World) (hx : dok x.dg) (hu : Is w u B) :
    Calls Tryz.prog 7 #[x.v, u] w fun e w' => e = .returned (.bool true) ∧ Below w.heap.size w w' := by
  obtain ⟨wB, hwB⟩ : ∃ W, w.alloc (.cells (mixC x.a x.dg x.t) 39) = W := ⟨_, rfl⟩
  have hbB : Below w.heap.size w wB := by rw [← hwB]; exact (Below.refl _ _).alloc (Nat.le_refl _) _
  have hmW : Wm wB w.heap.size x := by rw [← hwB]; exact heap_alloc_new _ _
  have HB := Lib.hid hbB
  have HLW := Lib.hid (hmW.load hx.1)
  have HDW := Lib.hid fun W (hW : Below wB.heap.size wB W) => (hmW.later hW).dig hx.1
  have HNM := Lib.hid fun W (hW : Below wB.heap.size wB W) => ((hmW.later hW).cells5 hx.1).2.1
  have HA := Lib.hid (hN.apply wB x hx)
  have HK := Lib.hid fun W (hW : Below wB.heap.size wB W) => hN.keepS W u B ((hu.later hbB).later hW)
  have HD := Lib.hid fun W => hN.digest W x.dg hx
  have HG := Lib.hid fun W => hN.tag W x.nm
  have HC := Lib.hid hN.count
  have HSN := Lib.hid hN.snapshot
  have HHE := Lib.hid hN.here
  have HLO := Lib.hid hN.loads
  have HLI := Lib.hid hN.list
  have HNA := Lib.hid hN.names
  have HLV := Lib.hid fun W => lives22_any hT W
  obtain ⟨p, c, rfl, _⟩ := hu
  unfold Wq.v at *
  generalize mixC x.a x.dg x.t = MX at *
  generalize bcs x.dg = DX at *
  clear hT hN hx hbB hmW
  go_enter Tryz.func7, Tryz.ntmps7
  go_upto_region 4 with (first
    | (refine wpList_ld rfl 39 _ rfl _ rfl _ HLW.out ?_)
    | (go_at_call 10; refine HA.out.mono ?_; rintro e w1 ⟨rfl, hb1⟩; have HB1 := Lib.hid hb1; clear hb1)
    | (go_at_call 12; refine (HK.out _ HB1.out).mono ?_; rintro e w2 ⟨rfl, hb2⟩; have HB2 := Lib.hid (below_step HB1.out hb2); clear hb2))
  have HDX := Lib.hid (HDW.out _ HB2.out)
  go_upto_region 5 with (first
    | (refine wpList_ld rfl 35 _ rfl _ rfl _ HDX.out ?_)
    | (go_at_call 23; refine (HD.out _).mono ?_; rintro e w3 ⟨rfl, hb3⟩; have HB3 := Lib.hid (below_step HB2.out hb3); clear hb3)
    | (refine wpList_store_row rfl 59 _ _ rfl w3.heap.size (enC zeroE (.slice none 0 0)) rfl rfl 59 _ (heap_alloc_new _ _) (enC_sizeOf zeroE _ rfl) rfl (enC_one _ _ _ _) ?_; generalize hw4 : World.setRow _ _ _ = w4))
  have HB4 := Lib.hid (below_step HB3.out (enC_lay rfl hw4).2)
  have c34 := HNM.out _ HB4.out
  clear hw4
  go_upto_region 6 with (first
    | (go_at_call 25; refine (HG.out _).mono ?_; rintro e w5 ⟨rfl, hb5⟩; have HB5 := Lib.hid (below_step HB4.out hb5); clear hb5)
    | (refine wpList_store_row rfl 64 _ _ rfl w5.heap.size (tnC zeroT (.slice none 0 0)) rfl rfl 64 _ (heap_alloc_new _ _) (tnC_sizeOf zeroT _ rfl) rfl (tnC_one _ _ _ _) ?_; generalize hw6 : World.setRow _ _ _ = w6))
  have HB6 := Lib.hid (below_step HB5.out (tnC_lay rfl hw6).2)
  clear hw6 c34
  go_upto_region 8 with (first
    | (go_at_call 27; refine (HC.out _).mono ?_; rintro e wc ⟨rfl, hbc⟩; have HBC := Lib.hid (below_step HB6.out hbc); clear hbc)
    | (go_at_call 15; refine (HSN.out _).mono ?_; rintro e ws ⟨rfl, hbs⟩; have HBS := Lib.hid (below_step HBC.out hbs); clear hbs)
    | (refine wpList_store_row rfl 27 _ _ rfl ws.heap.size (SnC 0 0 0 0 (.slice none 0 0) (.slice none 0 0) (.slice none 0 0)) rfl rfl 27 _ (heap_alloc_new _ _) sizeSn rfl (by simp [SnC, Value.oneCell']) ?_; generalize hw7 : World.setRow _ _ _ = w7))
  obtain ⟨g7, hg7⟩ : ∃ g, ws.heap.size = g := ⟨_, rfl⟩
  have HE7 : Hid (w7.heap[g7]? = some (.cells (SnC 0 0 0 0 (.slice none 0 0) (.slice none 0 0) (.slice none 0 0)) 27 (0, 0))) := Lib.hid (by rw [← hw7, ← hg7]; exact setRow_heap _ _ _ _ _ _ (heap_alloc_new _ _))
  have HB7 : Hid (Below wB.heap.size wB w7) := Lib.hid (by rw [← hw7]; exact below_setRow8 (HBS.out.alloc HBS.out.size _) _ _ HBS.out.size)
  have HSS : Hid (∀ W, Below w7.heap.size w7 W → (fun W => W.cell? ⟨g7, 4, none⟩ = some (.slice none 0 0) ∧ W.cell? ⟨g7, 5, none⟩ = some (.slice none 0 0) ∧ W.cell? ⟨g7, 6, none⟩ = some (.slice none 0 0) ∧ Below w7.heap.size w7 W) W) := Lib.hid fun W hW => by
    have h1 := obj_later HE7.out hW
    exact ⟨cell_of_row _ _ 4 _ _ _ h1, cell_of_row _ _ 5 _ _ _ h1, cell_of_row _ _ 6 _ _ _ h1, hW⟩
  rw [hg7]
  clear hw7 hg7
  refine wp_region_held_drew (S := (fun W => W.cell? ⟨g7, 4, none⟩ = some (.slice none 0 0) ∧ W.cell? ⟨g7, 5, none⟩ = some (.slice none 0 0) ∧ W.cell? ⟨g7, 6, none⟩ = some (.slice none 0 0) ∧ Below w7.heap.size w7 W)) (by kernel_rfl) (HSS.out _ (Below.refl _ _).drew) (fun hHeld => ?_)
  refine take_at 0 (v := ?vv1) rfl (by kernel_rfl) (by kernel_rfl) (by kernel_rfl) (fun _ _ _ h => h) (Or.inl ⟨by rfl, ?hy1⟩) (by assumption) ?rest1
  case hy1 => intro w hSw; (try dsimp only at hSw); go_simp; (try with_reducible rfl)
  (try simp only [PT])
  refine take_at 1 (v := ?vv2) rfl (by kernel_rfl) (by kernel_rfl) (by kernel_rfl) (fun _ _ _ h => h) (Or.inl ⟨by rfl, ?hy2⟩) (by assumption) ?rest2
  case hy2 => intro w hSw; (try dsimp only at hSw); go_simp; (try with_reducible rfl)
  (try simp only [PT])
  refine take_at 2 (v := ?vv3) rfl (by kernel_rfl) (by kernel_rfl) (by kernel_rfl) (fun _ _ _ h => h) (Or.inl ⟨by rfl, ?hy3⟩) (by assumption) ?rest3
  case hy3 => intro w hSw; (try dsimp only at hSw); go_simp; (try with_reducible rfl)
  (try simp only [PT])
  refine take_at 3 (v := ?vv4) rfl (by kernel_rfl) (by kernel_rfl) (by kernel_rfl) (fun _ _ _ h => h) (Or.inl ⟨by rfl, ?hy4⟩) (by assumption) ?rest4
  case hy4 => intro w hSw; (try dsimp only at hSw); go_simp; (try with_reducible rfl)
  (try simp only [PT])
  refine take_at 4 (v := ?vv5) rfl (by kernel_rfl) (by kernel_rfl) (by kernel_rfl) (fun _ _ _ h => h) (Or.inl ⟨by rfl, ?hy5⟩) (by assumption) ?rest5
  case hy5 => intro w hSw; (try dsimp only at hSw); go_simp; (try with_reducible rfl)
  (try simp only [PT])
  refine take_at 5 (v := ?vv6) rfl (by kernel_rfl) (by kernel_rfl) (by kernel_rfl) (fun _ _ _ h => h) (Or.inl ⟨by rfl, ?hy6⟩) (by assumption) ?rest6
  case hy6 => intro w hSw; (try dsimp only at hSw); go_simp; (try with_reducible rfl)
  (try simp only [PT])
  refine take_at 6 (v := ?vv7) rfl (by kernel_rfl) (by kernel_rfl) (by kernel_rfl) (fun _ _ _ h => h) (Or.inl ⟨by rfl, ?hy7⟩) (by assumption) ?rest7
  case hy7 => intro w hSw; (try dsimp only at hSw); go_simp; (try with_reducible rfl)
  (try simp only [PT])
  refine take_at 7 (v := ?vv8) rfl (by kernel_rfl) (by kernel_rfl) (by kernel_rfl) (fun _ _ _ h => h) (Or.inl ⟨by rfl, ?hy8⟩) (by assumption) ?rest8
  case hy8 => intro w hSw; (try dsimp only at hSw); go_simp; (try with_reducible rfl)
  (try simp only [PT])
  refine take_at 8 (v := ?vv9) rfl (by kernel_rfl) (by kernel_rfl) (by kernel_rfl) (fun _ _ _ h => h) (Or.inl ⟨by rfl, ?hy9⟩) (by assumption) ?rest9
  case hy9 => intro w hSw; (try dsimp only at hSw); go_simp; (try with_reducible rfl)
  (try simp only [PT])
  refine take_at 9 (v := ?vv10) rfl (by kernel_rfl) (by kernel_rfl) (by kernel_rfl) (fun _ _ _ h => h) (Or.inl ⟨by rfl, ?hy10⟩) (by assumption) ?rest10
  case hy10 => intro w hSw; (try dsimp only at hSw); go_simp; (try with_reducible rfl)
  (try simp only [PT])
  refine take_at 10 (v := ?vv11) rfl (by kernel_rfl) (by kernel_rfl) (by kernel_rfl) (fun _ _ _ h => h) (Or.inl ⟨by rfl, ?hy11⟩) (by assumption) ?rest11
  case hy11 => intro w hSw; (try dsimp only at hSw); go_simp; (try with_reducible rfl)
  (try simp only [PT])
  refine take_at 11 (v := ?vv12) rfl (by kernel_rfl) (by kernel_rfl) (by kernel_rfl) (fun _ _ _ h => h) (Or.inl ⟨by rfl, ?hy12⟩) (by assumption) ?rest12
  case hy12 => intro w hSw; (try dsimp only at hSw); go_simp; (try with_reducible rfl)
  (try simp only [PT])
  refine take_at 12 (v := ?vv13) rfl (by kernel_rfl) (by kernel_rfl) (by kernel_rfl) (fun _ _ _ h => h) (Or.inl ⟨by rfl, ?hy13⟩) (by assumption) ?rest13
  case hy13 => intro w hSw; (try dsimp only at hSw); go_simp; (try with_reducible rfl)
  (try simp only [PT])
  refine take_at 13 (v := ?vv14) rfl (by kernel_rfl) (by kernel_rfl) (by kernel_rfl) (fun _ _ _ h => h) (Or.inl ⟨by rfl, ?hy14⟩) (by assumption) ?rest14
  case hy14 => intro w hSw; (try dsimp only at hSw); go_simp; (try with_reducible rfl)
  (try simp only [PT])
  refine take_at 14 (v := ?vv15) rfl (by kernel_rfl) (by kernel_rfl) (by kernel_rfl) (fun _ _ _ h => h) (Or.inl ⟨by rfl, ?hy15⟩) (by assumption) ?rest15
  case hy15 => intro w hSw; (try dsimp only at hSw); go_simp; (try with_reducible rfl)
  (try simp only [PT])
  refine take_at 15 (v := ?vv16) rfl (by kernel_rfl) (by kernel_rfl) (by kernel_rfl) (fun _ _ _ h => h) (Or.inl ⟨by rfl, ?hy16⟩) (by assumption) ?rest16
  case hy16 => intro w hSw; (try dsimp only at hSw); go_simp; (try with_reducible rfl)
  (try simp only [PT])
  refine take_at 18 (v := ?vv17) rfl (by kernel_rfl) (by kernel_rfl) (by kernel_rfl) (fun _ _ _ h => h) (Or.inl ⟨by rfl, ?hy17⟩) (by assumption) ?rest17
  case hy17 => intro w hSw; (try dsimp only at hSw); go_simp; (try with_reducible rfl)
  (try simp only [PT])
  refine take_at 22 (v := ?vv18) rfl (by kernel_rfl) (by kernel_rfl) (by kernel_rfl) (fun _ _ _ h => h) (Or.inl ⟨by rfl, ?hy18⟩) (by assumption) ?rest18
  case hy18 => intro w hSw; (try dsimp only at hSw); go_simp; (try with_reducible rfl)
  (try simp only [PT])
  refine take_at 23 (v := ?vv19) rfl (by kernel_rfl) (by kernel_rfl) (by kernel_rfl) (fun _ _ _ h => h) (Or.inl ⟨by rfl, ?hy19⟩) (by assumption) ?rest19
  case hy19 => intro w hSw; (try dsimp only at hSw); go_simp; (try with_reducible rfl)
  (try simp only [PT])
  refine take_at 24 (v := ?vv20) rfl (by kernel_rfl) (by kernel_rfl) (by kernel_rfl) (fun _ _ _ h => h) (Or.inl ⟨by rfl, ?hy20⟩) (by assumption) ?rest20
  case hy20 => intro w hSw; (try dsimp only at hSw); go_simp; (try with_reducible rfl)
  (try simp only [PT])
  refine take_at 26 (v := ?vv21) rfl (by kernel_rfl) (by kernel_rfl) (by kernel_rfl) (fun _ _ _ h => h) (Or.inl ⟨by rfl, ?hy21⟩) (by assumption) ?rest21
  case hy21 => intro w hSw; (try dsimp only at hSw); go_simp; (try with_reducible rfl)
  (try simp only [PT])
  refine take_at 27 (v := ?vv22) rfl (by kernel_rfl) (by kernel_rfl) (by kernel_rfl) (fun _ _ _ h => h) (Or.inl ⟨by rfl, ?hy22⟩) (by assumption) ?rest22
  case hy22 => intro w hSw; (try dsimp only at hSw); go_simp; (try with_reducible rfl)
  (try simp only [PT])
  refine take_at 28 (v := ?vv23) rfl (by kernel_rfl) (by kernel_rfl) (by kernel_rfl) (fun _ _ _ h => h) (Or.inl ⟨by rfl, ?hy23⟩) (by assumption) ?rest23
  case hy23 => intro w hSw; (try dsimp only at hSw); go_simp; (try with_reducible rfl)
  (try simp only [PT])
  refine take_at 30 (v := ?vv24) rfl (by kernel_rfl) (by kernel_rfl) (by kernel_rfl) (fun _ _ _ h => h) (Or.inl ⟨by rfl, ?hy24⟩) (by assumption) ?rest24
  case hy24 => intro w hSw; (try dsimp only at hSw); go_simp; (try with_reducible rfl)
  (try simp only [PT])
  refine take_at 31 (v := ?vv25) rfl (by kernel_rfl) (by kernel_rfl) (by kernel_rfl) (fun _ _ _ h => h) (Or.inl ⟨by rfl, ?hy25⟩) (by assumption) ?rest25
  case hy25 => intro w hSw; (try dsimp only at hSw); go_simp; (try with_reducible rfl)
  (try simp only [PT])
  refine take_at 32 (v := ?vv26) rfl (by kernel_rfl) (by kernel_rfl) (by kernel_rfl) (fun _ _ _ h => h) (Or.inl ⟨by rfl, ?hy26⟩) (by assumption) ?rest26
  case hy26 => intro w hSw; (try dsimp only at hSw); go_simp; (try with_reducible rfl)
  (try simp only [PT])
  refine take_at 34 (v := ?vv27) rfl (by kernel_rfl) (by kernel_rfl) (by kernel_rfl) (fun _ _ _ h => h) (Or.inl ⟨by rfl, ?hy27⟩) (by assumption) ?rest27
  case hy27 => intro w hSw; (try dsimp only at hSw); go_simp; (try with_reducible rfl)
  (try simp only [PT])
  refine take_at 38 (v := ?vv28) rfl (by kernel_rfl) (by kernel_rfl) (by kernel_rfl) (fun _ _ _ h => h) (Or.inl ⟨by rfl, ?hy28⟩) (by assumption) ?rest28
  case hy28 => intro w hSw; (try dsimp only at hSw); go_simp; (try with_reducible rfl)
  (try simp only [PT])
  refine ready_at 16 rfl (by kernel_rfl) (fun K hK => ?_)
  go_simp
  refine (HHE.out _ _).mono ?_
  rintro ex v1 ⟨rfl, hb⟩
  have HB_v1 : Hid (Below w7.heap.size w7 v1) := Lib.hid (below_step (Below.refl _ _).drew hb)
  clear hb hHeld
  (try dsimp only)
  first
    | refine hK.out _ _ ?hS29 (fun hHeld => ?rest29)
    | (go_wp2_with fail; refine hK.out _ _ ?hS29 (fun hHeld => ?rest29))
  case hS29 => exact HSS.out _ HB_v1.out
  clear hK K
  (try simp only [PT])
  refine take_at 17 (v := ?vv30) rfl (by kernel_rfl) (by kernel_rfl) (by kernel_rfl) (fun _ _ _ h => h) (Or.inl ⟨by rfl, ?hy30⟩) (by assumption) ?rest30
  case hy30 => intro w hSw; (try dsimp only at hSw); go_simp; (try with_reducible rfl)
  (try simp only [PT])
  refine ready_at 19 rfl (by kernel_rfl) (fun K hK => ?_)
  go_simp
  refine (HLO.out _).mono ?_
  rintro ex v2 ⟨rfl, hb⟩
  have HB_v2 : Hid (Below w7.heap.size w7 v2) := Lib.hid (below_step HB_v1.out hb)
  clear hb hHeld
  (try dsimp only)
  first
    | refine hK.out _ _ ?hS31 (fun hHeld => ?rest31)
    | (go_wp2_with fail; refine hK.out _ _ ?hS31 (fun hHeld => ?rest31))
  case hS31 => exact HSS.out _ HB_v2.out
  clear hK K
  (try simp only [PT])
  refine take_at 20 (v := ?vv32) rfl (by kernel_rfl) (by kernel_rfl) (by kernel_rfl) (fun _ _ _ h => h) (Or.inl ⟨by rfl, ?hy32⟩) (by assumption) ?rest32
  case hy32 => intro w hSw; (try dsimp only at hSw); go_simp; (try with_reducible rfl)
  (try simp only [PT])
  refine take_at 21 (v := ?vv33) rfl (by kernel_rfl) (by kernel_rfl) (by kernel_rfl) (fun _ _ _ h => h) (Or.inl ⟨by rfl, ?hy33⟩) (by assumption) ?rest33
  case hy33 => intro w hSw; (try dsimp only at hSw); go_simp; (try with_reducible rfl)
  (try simp only [PT])
  refine take_at 25 (v := ?vv34) rfl (by kernel_rfl) (by kernel_rfl) (by kernel_rfl) (fun _ _ _ h => h) (Or.inl ⟨by rfl, ?hy34⟩) (by assumption) ?rest34
  case hy34 => intro w hSw; (try dsimp only at hSw); go_simp; (try with_reducible rfl)
  (try simp only [PT])
  refine take_at 29 (v := ?vv35) rfl (by kernel_rfl) (by kernel_rfl) (by kernel_rfl) (fun _ _ _ h => h) (Or.inl ⟨by rfl, ?hy35⟩) (by assumption) ?rest35
  case hy35 => intro w hSw; (try dsimp only at hSw); go_simp; (try with_reducible rfl)
  (try simp only [PT])
  refine take_at 33 (v := ?vv36) rfl (by kernel_rfl) (by kernel_rfl) (by kernel_rfl) (fun _ _ _ h => h) (Or.inl ⟨by rfl, ?hy36⟩) (by assumption) ?rest36
  case hy36 => intro w hSw; (try dsimp only at hSw); go_simp; (try with_reducible rfl)
  (try simp only [PT])
  refine ready_at 35 rfl (by kernel_rfl) (fun K hK => ?_)
  go_simp
  refine (HLI.out _ _ _).mono ?_
  rintro ex v3 ⟨rfl, hb⟩
  have HB_v3 : Hid (Below w7.heap.size w7 v3) := Lib.hid (below_step HB_v2.out hb)
  clear hb hHeld
  (try dsimp only)
  first
    | refine hK.out _ _ ?hS37 (fun hHeld => ?rest37)
    | (go_wp2_with fail; refine hK.out _ _ ?hS37 (fun hHeld => ?rest37))
  case hS37 => exact HSS.out _ HB_v3.out
  clear hK K
  (try simp only [PT])
  refine take_at 36 (v := ?vv38) rfl (by kernel_rfl) (by kernel_rfl) (by kernel_rfl) (fun _ _ _ h => h) (Or.inl ⟨by rfl, ?hy38⟩) (by assumption) ?rest38
  case hy38 => intro w hSw; (try dsimp only at hSw); go_simp; (try with_reducible rfl)
  (try simp only [PT])
  refine take_at 37 (v := ?vv39) rfl (by kernel_rfl) (by kernel_rfl) (by kernel_rfl) (fun _ _ _ h => h) (Or.inl ⟨by rfl, ?hy39⟩) (by assumption) ?rest39
  case hy39 => intro w hSw; (try dsimp only at hSw); go_simp; (try with_reducible rfl)
  (try simp only [PT])
  refine ready_at 39 rfl (by kernel_rfl) (fun K hK => ?_)
  go_simp
  refine (HNA.out _).mono ?_
  rintro ex v4 ⟨rfl, hb⟩
  have HB_v4 : Hid (Below w7.heap.size w7 v4) := Lib.hid (below_step HB_v3.out hb)
  clear hb hHeld
  (try dsimp only)
  first
    | refine hK.out _ _ ?hS40 (fun hHeld => ?rest40)
    | (go_wp2_with fail; refine hK.out _ _ ?hS40 (fun hHeld => ?rest40))
  case hS40 => exact HSS.out _ HB_v4.out
  clear hK K
  (try simp only [PT])
  refine take_at 40 (v := ?vv41) rfl (by kernel_rfl) (by kernel_rfl) (by kernel_rfl) (fun _ _ _ h => h) (Or.inl ⟨by rfl, ?hy41⟩) (by assumption) ?rest41
  case hy41 => intro w hSw; (try dsimp only at hSw); go_simp; (try with_reducible rfl)
  (try simp only [PT])
  refine take_at 41 (v := ?vv42) rfl (by kernel_rfl) (by kernel_rfl) (by kernel_rfl) (fun _ _ _ h => h) (Or.inl ⟨by rfl, ?hy42⟩) (by assumption) ?rest42
  case hy42 => intro w hSw; (try dsimp only at hSw); go_simp; (try with_reducible rfl)
  (try simp only [PT])
  refine take_at 42 (v := ?vv43) rfl (by kernel_rfl) (by kernel_rfl) (by kernel_rfl) (fun _ _ _ h => h) (Or.inl ⟨by rfl, ?hy43⟩) (by assumption) ?rest43
  case hy43 => intro w hSw; (try dsimp only at hSw); go_simp; (try with_reducible rfl)
  (try simp only [PT])
  refine take_at 43 (v := ?vv44) rfl (by kernel_rfl) (by kernel_rfl) (by kernel_rfl) (fun _ _ _ h => h) (Or.inl ⟨by rfl, ?hy44⟩) (by assumption) ?rest44
  case hy44 => intro w hSw; (try dsimp only at hSw); go_simp; (try with_reducible rfl)
  (try simp only [PT])
  refine take_at 44 (v := ?vv45) rfl (by kernel_rfl) (by kernel_rfl) (by kernel_rfl) (fun _ _ _ h => h) (Or.inl ⟨by rfl, ?hy45⟩) (by assumption) ?rest45
  case hy45 => intro w hSw; (try dsimp only at hSw); go_simp; (try with_reducible rfl)
  (try simp only [PT])
  refine ready_at 45 rfl (by kernel_rfl) (fun K hK => ?_)
  go_simp
  refine (HLV.out _).mono ?_
  rintro ex v5 ⟨rfl, hb⟩
  have HB_v5 : Hid (Below w7.heap.size w7 v5) := Lib.hid (below_step HB_v4.out hb)
  clear hb hHeld
  (try dsimp only)
  first
    | refine hK.out _ _ ?hS46 (fun hHeld => ?rest46)
    | (go_wp2_with fail; refine hK.out _ _ ?hS46 (fun hHeld => ?rest46))
  case hS46 => exact HSS.out _ HB_v5.out
  clear hK K
  (try simp only [PT])
  refine take_at 46 (v := ?vv47) rfl (by kernel_rfl) (by kernel_rfl) (by kernel_rfl) (fun _ _ _ h => h) (Or.inl ⟨by rfl, ?hy47⟩) (by assumption) ?rest47
  case hy47 => intro w hSw; (try dsimp only at hSw); go_simp; (try with_reducible rfl)
  (try simp only [PT])
  refine take_at 47 (v := ?vv48) rfl (by kernel_rfl) (by kernel_rfl) (by kernel_rfl) (fun _ _ _ h => h) (Or.inl ⟨by rfl, ?hy48⟩) (by assumption) ?rest48
  case hy48 => intro w hSw; (try dsimp only at hSw); go_simp; (try with_reducible rfl)
  (try simp only [PT])
  refine wpAnyH_done (by kernel_rfl) ?_ _
  go_wp2
  go_ret
  exact ⟨rfl, below_step HB.out (below_step HB7.out HB_v5.out)⟩
end Go.Proofs.YtpfbfhigelbfcaaGreat

