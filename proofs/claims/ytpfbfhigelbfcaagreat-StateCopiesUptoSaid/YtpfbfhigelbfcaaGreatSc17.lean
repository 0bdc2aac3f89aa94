/- Layer 22: a state of the reference as it lies in memory; The reference of layer 22: Keep. (gen_starg.py); The reference of layer 22: New. (gen_starh.py); The reference of layer 22: Is. (gen_stari.py); Layer 22: what the laws want of package state; Layer 22, the laws: lives, under what is said of package state; Layer 22: how much a state has behind so many words; Layer 22: a snapshot in a block, re -/
import Derived.Test.YtpfbfhigelbfcaaGreatSc1
import Derived.Test.YtpfbfhigelbfcaaGreatSc3
import Derived.Test.YtpfbfhigelbfcaaGreatSc7
import Derived.Test.YtpfbfhigelbfcaaGreatSc10
import Derived.Test.YtpfbfhigelbfcaaGreatSc11
import Derived.Test.YtpfbfhigelbfcaaGreatSc12
import Derived.Test.YtpfbfhigelbfcaaGreatSc16
set_option linter.unusedSimpArgs false
set_option linter.unusedVariables false
namespace Go.Proofs.YtpfbfhigelbfcaaGreat
open Go.RowKit Go.Lib
theorem Gw.own {α : Type} {E : Ec α} {W : World} {B : Nat} {q : Option Addr} {m d : Nat} {o : List α} (h : Gw E W B (.slice q m d) o) : ∀ b off, q = some ⟨b, off, none⟩ → B ≤ b := fun b off e => (Gw.own_lt h (by rw [e]; rfl)).1
/-- a row of entries: an old one, or one from block B on; what lies in it too -/
def EnR (W : World) (B : Nat) (p : Option Addr) (n : Nat) (L : List Ex) (v : Value) (D : List Pe) : Prop :=
  ∃ q m d o, v = .slice q m d ∧ peL o = D ∧ Gs encEn W q m o ∧ ((q = p ∧ m = n) ∨ ∀ b off, q = some ⟨b, off, none⟩ → B ≤ b) ∧ ∀ y ∈ o, y ∈ L ∨ dok y.e.dg ∧ Gw encI W B y.s y.e.ins
def TnR (W : World) (B : Nat) (p : Option Addr) (n : Nat) (L : List Tx) (v : Value) (D : List Pt) : Prop :=
  ∃ q m d o, v = .slice q m d ∧ ptL o = D ∧ Gs encTn W q m o ∧ ((q = p ∧ m = n) ∨ ∀ b off, q = some ⟨b, off, none⟩ → B ≤ b) ∧ ∀ y ∈ o, y ∈ L ∨ dok y.e.dg ∧ Gw encI W B y.s y.e.ins
def LoR (W : World) (B : Nat) (p : Option Addr) (n : Nat) (v : Value) (l : List (Int × Int)) : Prop :=
  ∃ q m d, v = .slice q m d ∧ Gs encLo W q m (ldL l) ∧ ((q = p ∧ m = n) ∨ ∀ b off, q = some ⟨b, off, none⟩ → B ≤ b)
theorem EnR.later {W V : World} {B : Nat} {p : Option Addr} {n : Nat} {L : List Ex} {v : Value} {D : List Pe} (h : EnR W B p n L v D) (hb : Below W.heap.size W V) : EnR V B p n L v D := by
  obtain ⟨q, m, d, o, h1, h2, h3, h4, h5⟩ := h
  exact ⟨q, m, d, o, h1, h2, h3.later hb, h4, fun y hy => (h5 y hy).imp id fun h => ⟨h.1, h.2.later hb⟩⟩
theorem TnR.later {W V : World} {B : Nat} {p : Option Addr} {n : Nat} {L : List Tx} {v : Value} {D : List Pt} (h : TnR W B p n L v D) (hb : Below W.heap.size W V) : TnR V B p n L v D := by
  obtain ⟨q, m, d, o, h1, h2, h3, h4, h5⟩ := h
  exact ⟨q, m, d, o, h1, h2, h3.later hb, h4, fun y hy => (h5 y hy).imp id fun h => ⟨h.1, h.2.later hb⟩⟩
theorem LoR.later {W V : World} {B : Nat} {p : Option Addr} {n : Nat} {v : Value} {l : List (Int × Int)} (h : LoR W B p n v l) (hb : Below W.heap.size W V) : LoR V B p n v l := by
  obtain ⟨q, m, d, h1, h2, h3⟩ := h
  exact ⟨q, m, d, h1, h2.later hb, h3⟩
theorem EnR.mono {W : World} {B B' : Nat} {p : Option Addr} {n : Nat} {L : List Ex} {v : Value} {D : List Pe} (h : EnR W B p n L v D) (hB : B' ≤ B) : EnR W B' p n L v D := by
  obtain ⟨q, m, d, o, h1, h2, h3, h4, h5⟩ := h
  exact ⟨q, m, d, o, h1, h2, h3, h4.imp id fun h b off e => Nat.le_trans hB (h b off e), fun y hy => (h5 y hy).imp id fun h => ⟨h.1, h.2.mono hB⟩⟩
theorem TnR.mono {W : World} {B B' : Nat} {p : Option Addr} {n : Nat} {L : List Tx} {v : Value} {D : List Pt} (h : TnR W B p n L v D) (hB : B' ≤ B) : TnR W B' p n L v D := by
  obtain ⟨q, m, d, o, h1, h2, h3, h4, h5⟩ := h
  exact ⟨q, m, d, o, h1, h2, h3, h4.imp id fun h b off e => Nat.le_trans hB (h b off e), fun y hy => (h5 y hy).imp id fun h => ⟨h.1, h.2.mono hB⟩⟩
theorem LoR.mono {W : World} {B B' : Nat} {p : Option Addr} {n : Nat} {v : Value} {l : List (Int × Int)} (h : LoR W B p n v l) (hB : B' ≤ B) : LoR W B' p n v l := by
  obtain ⟨q, m, d, h1, h2, h3⟩ := h
  exact ⟨q, m, d, h1, h2, h3.imp id fun h b off e => Nat.le_trans hB (h b off e)⟩
theorem LoR.old {W : World} {B : Nat} {p : Option Addr} {n c : Nat} {l : List (Int × Int)} (h : Gs encLo W p n (ldL l)) : LoR W B p n (.slice p n c) l := ⟨p, n, c, rfl, h, Or.inl ⟨rfl, rfl⟩⟩
theorem LoR.gw {W : World} {B : Nat} {p : Option Addr} {n : Nat} {v : Value} {l : List (Int × Int)} (h : Gw encLo W B v (ldL l)) : LoR W B p n v l := by
  obtain ⟨q, c, rfl, _⟩ := h.open
  exact ⟨q, _, c, rfl, h.gs, Or.inr h.own⟩
def SlQ (R : World → Value → Prop) (W : World) (e : Ending) (w' : World) : Prop := ∃ q m d, e = .returned (.slice q m d) ∧ R w' (.slice q m d) ∧ Below W.heap.size W w'
theorem AppQ.r {w w' : World} {p : Option Addr} {n c : Nat} {L : List Ex} {x : Wq} {e : Ending} (h : AppQ w p n c L x e w') {B : Nat} (hB : B ≤ w.heap.size) : SlQ (fun W v => EnR W B p n L v (applyE (peL L) x)) w e w' := by
  obtain ⟨q, m, d, o, h1, h2, h3, h4, h5, _, h6⟩ := h
  exact ⟨q, m, d, h1, EnR.mono ⟨q, m, d, o, rfl, h2, h3, h4, h5⟩ hB, h6⟩
theorem AppTQ.r {w w' : World} {p : Option Addr} {n c : Nat} {L : List Tx} {x : Wq} {e : Ending} (h : AppTQ w p n c L x e w') {B : Nat} (hB : B ≤ w.heap.size) : SlQ (fun W v => TnR W B p n L v (applyT (ptL L) x)) w e w' := by
  obtain ⟨q, m, d, o, h1, h2, h3, h4, h5, _, h6⟩ := h
  exact ⟨q, m, d, h1, TnR.mono ⟨q, m, d, o, rfl, h2, h3, h4, h5⟩ hB, h6⟩
theorem KepQ.r {w w' : World} {L : List Ex} {b : List Int} {e : Ending} (h : KepQ w L b e w') {B : Nat} (hB : B ≤ w.heap.size) : SlQ (fun W v => EnR W B none 0 [] v (keepR (peL L) b)) w e w' := by
  obtain ⟨v, o, h1, h2, h3, h4, h5⟩ := h
  obtain ⟨q, c, rfl, _⟩ := h3.open
  exact ⟨q, _, c, h1, EnR.mono ⟨q, _, c, o, rfl, h2, h3.gs, Or.inr h3.own, fun y hy => Or.inr (h4 y hy)⟩ hB, h5⟩
theorem KepTQ.r {w w' : World} {L : List Tx} {b : List Int} {e : Ending} (h : KepTQ w L b e w') {B : Nat} (hB : B ≤ w.heap.size) : SlQ (fun W v => TnR W B none 0 [] v (keepTs (ptL L) b)) w e w' := by
  obtain ⟨v, o, h1, h2, h3, h4, h5⟩ := h
  obtain ⟨q, c, rfl, _⟩ := h3.open
  exact ⟨q, _, c, h1, TnR.mono ⟨q, _, c, o, rfl, h2, h3.gs, Or.inr h3.own, fun y hy => Or.inr (h4 y hy)⟩ hB, h5⟩
theorem NewQ.r {w w' : World} {L : List Ex} {e : Ending} (h : NewQ w L e w') {B : Nat} (hB : B ≤ w.heap.size) : SlQ (fun W v => EnR W B none 0 L v (newE (peL L))) w e w' := by
  obtain ⟨v, o, h1, h2, h3, h4, h5⟩ := h
  obtain ⟨q, c, rfl, _⟩ := h3.open
  exact ⟨q, _, c, h1, EnR.mono ⟨q, _, c, o, rfl, h2, h3.gs, Or.inr h3.own, fun y hy => Or.inl (h4 y hy)⟩ hB, h5⟩
theorem NewTQ.r {w w' : World} {L : List Tx} {e : Ending} (h : NewTQ w L e w') {B : Nat} (hB : B ≤ w.heap.size) : SlQ (fun W v => TnR W B none 0 L v (newT (ptL L))) w e w' := by
  obtain ⟨v, o, h1, h2, h3, h4, h5⟩ := h
  obtain ⟨q, c, rfl, _⟩ := h3.open
  exact ⟨q, _, c, h1, TnR.mono ⟨q, _, c, o, rfl, h2, h3.gs, Or.inr h3.own, fun y hy => Or.inl (h4 y hy)⟩ hB, h5⟩
/-- block G holds a state -/
def Sg (W : World) (G : Nat) (a b c : Value) : Prop := W.heap[G]? = some (.cells #[a, b, c] 32 (0, 0))
theorem Sg.later {W V : World} {G : Nat} {a b c : Value} (h : Sg W G a b c) (hb : Below W.heap.size W V) : Sg V G a b c := obj_later h hb
theorem Sg.lt {W : World} {G : Nat} {a b c : Value} (h : Sg W G a b c) : G < W.heap.size := (Array.getElem?_eq_some_iff.1 h).1
theorem Sg.cells {W : World} {G : Nat} {a b c : Value} (h : Sg W G a b c) : W.cell? ⟨G, 0, none⟩ = some a ∧ W.cell? ⟨G, 1, none⟩ = some b ∧ W.cell? ⟨G, 2, none⟩ = some c :=
  ⟨cell_of_row _ _ 0 _ _ _ h, cell_of_row _ _ 1 _ _ _ h, cell_of_row _ _ 2 _ _ _ h⟩
theorem Sg.frozen {W : World} {G : Nat} {a b c : Value} (h : Sg W G a b c) (j : Nat) : W.frozen? ⟨G, j, none⟩ = false := frozen_of_row W G j _ _ h
theorem Sg.set2 {W : World} {G : Nat} {a b c : Value} (h : Sg W G a b c) (u : Value) : Sg (W.setCell ⟨G, 2, none⟩ u) G a b u := heap_setCell_same W G 2 _ _ _ h
theorem Sg.row {W : World} {G : Nat} {a b c a' b' c' : Value} (h : Sg W G a b c) : Sg (W.setRow G #[a', b', c']) G a' b' c' := setRow_heap _ _ _ _ _ _ h
theorem sizeSt : (Tryz.prog.info? 32).map (·.size) = some 3 := by kernel_rfl
theorem Sg.res1 {fn : Func} {p : Tmp} {w : World} {g : Nat} {a b c : Value} (hg : Sg w g a b c) (h : fn.results = #[.cell p 32]) (tmps : Array Value)
    (hp : tmps.getD p undef = .pointer (some ⟨g, 0, none⟩)) : (Go.results fn tmps).run Tryz.prog w = .ok (.agg #[a, b, c]) w :=
  results_cell_row h tmps w g _ _ _ _ hp hg Tryz.underlying32 rfl sizeSt
/-- what a function of states answers -/
def StQ (w : World) (p q r : Option Addr) (n m l : Nat) (D : List Ex) (T : List Tx) (x : Ps) (e : Ending) (w' : World) : Prop :=
  ∃ a b c, e = .returned (.agg #[a, b, c]) ∧ EnR w' w.heap.size p n D a x.D ∧ TnR w' w.heap.size q m T b x.T ∧ LoR w' w.heap.size r l c x.L ∧ Below w.heap.size w w'
/-- amid Keep's loop: block G turns alone, and new ones come -/
structure KsI (w2 wc W : World) (G : Nat) (a b v : Value) (o : List (Int × Int)) : Prop where
  z : Sg W G a b v
  g : Gw encLo W wc.heap.size v (ldL o)
  c : Chg (fun b => b = G) wc W
  le : Below w2.heap.size w2 W
theorem KsI.put {w2 wc W V : World} {G : Nat} {a b v u : Value} {o o' : List (Int × Int)} (h : KsI w2 wc W G a b v o) (hB : Below wc.heap.size W V) (hg : Gw encLo V wc.heap.size u (ldL o')) (hG : G < wc.heap.size) (h2 : w2.heap.size ≤ G) (hu : ∀ b, u.ownBlock = some b → b ≠ G) : KsI w2 wc (V.setCell ⟨G, 2, none⟩ u) G a b u o' :=
  ⟨Sg.set2 (show Sg V G a b v from (hB.block G hG).trans h.z) u, hg.setOther hu,
   h.c.tr (S' := fun b => b = G ∨ wc.heap.size ≤ b) ⟨hB.os, hB.tape, hB.output, by rw [World.size_setCell]; exact hB.size, fun k hk hn => by
      rw [heap_setCell_other V ⟨G, 2, none⟩ k u (fun e => hn (Or.inl e))]
      exact hB.block k (Nat.lt_of_not_le fun h => hn (Or.inr h))⟩ (fun b hb => hb),
   (h.le.trans (hB.mono (Nat.le_trans h2 (Nat.le_of_lt hG)))).setCell h2 _⟩
/-- loads, without what lives -/
def psL (K : List (Int × Int × Int)) : List (Int × Int) := K.map fun x => (x.1, x.2.1)
/-- a snapshot -/
def SnC (a b c e : Int) (u v x : Value) : Array Value := #[.int .i64 a, .int .i64 b, .int .i64 c, .int .u64 e, u, v, x]
section
variable (Sx : World → (Nat → Prop) → (Nat → Prop) → Value → Ps → Prop)
/-- a state that is made -/
def NewSQ (w : World) (N : Nat → Prop) (x : Ps) (e : Ending) (w' : World) : Prop := ∃ v S F, e = .returned v ∧ Sx w' S F v x ∧ (∀ b, S b → w.heap.size ≤ b) ∧ (∀ b, F b → N b ∨ w.heap.size ≤ b) ∧ Below w.heap.size w w'
/-- a state that is turned -/
def OpSQ (w : World) (S F : Nat → Prop) (v : Value) (x : Ps) (e : Ending) (w' : World) : Prop := ∃ S' F', e = .returned (.tuple #[]) ∧ Sx w' S' F' v x ∧ Chg S w w' ∧ (∀ b, S' b → S b ∨ w.heap.size ≤ b) ∧ (∀ b, F' b → F b ∨ w.heap.size ≤ b)
end
/-- what is read lies in blocks of F, or in new ones -/
def In1 (w : World) (F : Nat → Prop) (p : Option Addr) (n : Nat) : Prop := n ≠ 0 → ∀ b off, p = some ⟨b, off, none⟩ → F b ∨ w.heap.size ≤ b
def SlOk (p : Option Addr) (n c : Nat) : Prop := (p = none → c = 0) ∧ n ≤ c ∧ c ≤ maxLen
def DigSQ (w : World) (F : Nat → Prop) (r : Pe × Bool) (e : Ending) (w' : World) : Prop := ∃ s, e = .returned (.tuple #[enV r.1 s, .bool r.2]) ∧ Is w' s r.1.ins ∧ (r.1.ins ≠ [] → ∀ b, s.ownBlock = some b → F b ∨ w.heap.size ≤ b) ∧ Below w.heap.size w w'
def TagSQ (w : World) (F : Nat → Prop) (r : Pt × Bool) (e : Ending) (w' : World) : Prop := ∃ s, e = .returned (.tuple #[tnV r.1 s, .bool r.2]) ∧ Is w' s r.1.ins ∧ (r.1.ins ≠ [] → ∀ b, s.ownBlock = some b → F b ∨ w.heap.size ≤ b) ∧ Below w.heap.size w w'
def HereSQ (w : World) (F : Nat → Prop) (l : List Wq) (e : Ending) (w' : World) : Prop := ∃ p n c o, e = .returned (.slice p n c) ∧ wxL o = l ∧ Gs encWd w' p n o ∧ In1 w F p n ∧ SlOk p n c ∧ Below w.heap.size w w'
def LoadSQ (w : World) (F : Nat → Prop) (l : List (Int × Int × Int)) (e : Ending) (w' : World) : Prop := ∃ p n c, e = .returned (.slice p n c) ∧ Gs encLo w' p n l ∧ In1 w F p n ∧ SlOk p n c ∧ Below w.heap.size w w'
def SnapSQ (w : World) (F : Nat → Prop) (x : Ps) (e : Ending) (w' : World) : Prop :=
  ∃ p n c D q m d T r l cr N, e = .returned (.agg (SnC 0 0 0 0 (.slice p n c) (.slice q m d) (.slice r l cr))) ∧ peL D = x.D ∧ ptL T = x.T ∧ ReN w' N p n D ∧ ReT w' N q m T ∧ Gs encLo w' r l (loadsP x) ∧ (∀ b, N b → F b ∨ w.heap.size ≤ b) ∧ In1 w F r l ∧ SlOk p n c ∧ SlOk q m d ∧ SlOk r l cr ∧ Below w.heap.size w w'
def ListSQ (w : World) (F : Nat → Prop) (L : List ByteArray) (e : Ending) (w' : World) : Prop := ∃ p n c, e = .returned (.slice p n c) ∧ Gs encS w' p n L ∧ In1 w F p n ∧ SlOk p n c ∧ Below w.heap.size w w'
def NamesSQ (w : World) (L : List (List Int)) (e : Ending) (w' : World) : Prop := ∃ p n c, e = .returned (.slice p n c) ∧ Ds w' p n L ∧ n ≤ maxLen ∧ Below w.heap.size w w'
/-- the numbers of a snapshot are numbers -/
structure SnR (D : List Ex) (T : List Tx) (K : List (Int × Int × Int)) : Prop where
  r : ∀ x ∈ K, -9223372036854775808 ≤ x.2.1 ∧ x.2.1 ≤ 9223372036854775807
  s : ∀ x ∈ K, Rgi x.1
  d : ∀ y ∈ peL D, y.In
  t : ∀ y ∈ ptL T, y.In
theorem SnR.nil : SnR [] [] [] := ⟨fun x h => (by cases h), fun x h => (by cases h), fun x h => (by cases h), fun x h => (by cases h)⟩
/-- not so much of it that numbers run over -/
structure Ps.Few (x : Ps) : Prop where
  n : x.D.length + x.T.length ≤ 1048576
  l : x.L.length ≤ 1048576
  i : insLe x.D 2097151
  j : insLeT x.T 2097151
/-- Sx w S F v x: in w, v is a state that holds x; its own blocks are those of S, what it reads besides lies in those of F -/
structure StOk (Sx : World → (Nat → Prop) → (Nat → Prop) → Value → Ps → Prop) : Prop where
  keep : ∀ {w w' : World} {S F : Nat → Prop} {v : Value} {x : Ps}, Sx w S F v x → (∀ b, S b ∨ F b → w'.heap[b]? = w.heap[b]?) → w.heap.size ≤ w'.heap.size → Sx w' S F v x
  lt : ∀ {w : World} {S F : Nat → Prop} {v : Value} {x : Ps}, Sx w S F v x → ∀ b, S b ∨ F b → b < w.heap.size
  dis : ∀ {w : World} {S F : Nat → Prop} {v : Value} {x : Ps}, Sx w S F v x → ∀ b, S b → ¬ F b
  ok : ∀ {w : World} {S F : Nat → Prop} {v : Value} {x : Ps}, Sx w S F v x → x.Ok ∧ (∀ y ∈ x.D, dok y.dg) ∧ (∀ y ∈ x.T, dok y.dg) ∧ x.In
  new : ∀ {w : World} {N : Nat → Prop} {a b c' e : Int} {p q r : Option Addr} {n c m d l cr : Nat} {D : List Ex} {T : List Tx} {K : List (Int × Int × Int)}, ReN w N p n D → ReT w N q m T → Gs encLo w r l K → SlOk p n c → SlOk q m d → SlOk r l cr → SnR D T K → n + m ≤ 1048576 → l ≤ 1048576 → insLe (peL D) 2097151 → insLeT (ptL T) 2097151 →
    Calls Tryz.prog 8 #[.agg (SnC a b c' e (.slice p n c) (.slice q m d) (.slice r l cr))] w fun e w' => NewSQ Sx w N (newS (peL D) (ptL T) (psL K)) e w'
  apply : ∀ {w : World} {S F : Nat → Prop} {v : Value} {x : Ps} (y : Wq), Sx w S F v x → dok y.dg → y.In → x.Few → Calls Tryz.prog 10 #[v, y.v] w fun e w' => OpSQ Sx w S F v (applyS x y) e w'
  keepS : ∀ {w : World} {S F : Nat → Prop} {v u : Value} {x : Ps} {B : List Int}, Sx w S F v x → Is w u B → (B ≠ [] → ∀ b, u.ownBlock = some b → ¬ S b) → B.length ≤ 2097152 → (∀ b ∈ B, Rgi b) → x.Few → Calls Tryz.prog 12 #[v, u] w fun e w' => OpSQ Sx w S F v (keepS x B) e w'
  digest : ∀ {w : World} {S F : Nat → Prop} {v : Value} {x : Ps} (d : List Int), Sx w S F v x → dok d → Calls Tryz.prog 23 #[v, .agg (bcs d)] w fun e w' => DigSQ w F (getR x.D d) e w'
  tag : ∀ {w : World} {S F : Nat → Prop} {v : Value} {x : Ps} (s : ByteArray), Sx w S F v x → Calls Tryz.prog 25 #[v, .string s] w fun e w' => TagSQ w F (getTR x.T s) e w'
  here : ∀ {w : World} {S F : Nat → Prop} {v : Value} {x : Ps} (s : Int), Sx w S F v x → x.Few → Calls Tryz.prog 17 #[v, .int .i64 s] w fun e w' => HereSQ w F (hereP x s) e w'
  loads : ∀ {w : World} {S F : Nat → Prop} {v : Value} {x : Ps}, Sx w S F v x → x.Few → Calls Tryz.prog 20 #[v] w fun e w' => LoadSQ w F (loadsP x) e w'
  snapshot : ∀ {w : World} {S F : Nat → Prop} {v : Value} {x : Ps}, Sx w S F v x → x.Few → Calls Tryz.prog 15 #[v] w fun e w' => SnapSQ w F x e w'
  list : ∀ {w : World} {S F : Nat → Prop} {v : Value} {x : Ps} (s : ByteArray) (n : Int), Sx w S F v x → x.Few → -9223372036854775808 ≤ n → n ≤ 9223372036854775807 → Calls Tryz.prog 35 #[v, .string s, .int .i64 n] w fun e w' => ListSQ w F (listT x.T s n) e w'
  names : ∀ {w : World} {S F : Nat → Prop} {v : Value} {x : Ps}, Sx w S F v x → x.Few → Calls Tryz.prog 33 #[v] w fun e w' => NamesSQ w (namesT x.T) e w'
  count : ∀ {w : World} {S F : Nat → Prop} {v : Value} {x : Ps}, Sx w S F v x → x.Few → Calls Tryz.prog 27 #[v] w fun e w' => e = .returned (.tuple #[.int .i64 (cntE x.D : Int), .int .i64 (IntKind.i64.wrap (sumE x.D)), .int .i64 ((namesT x.T).length : Int)]) ∧ Below w.heap.size w w'
theorem StOk.later {Sx : World → (Nat → Prop) → (Nat → Prop) → Value → Ps → Prop} (hT : StOk Sx) {w w' : World} {S F : Nat → Prop} {v : Value} {x : Ps} (h : Sx w S F v x) (hb : Below w.heap.size w w') : Sx w' S F v x :=
  hT.keep h (fun b hb2 => hb.block b (hT.lt h b hb2)) hb.size
theorem reN_none0 (w : World) : ReN w (fun _ => False) none 0 [] := ⟨Gs.empty _ _ _, fun h => absurd rfl h, (fun x h => by cases h), (fun x h => by cases h), (fun x h => by cases h), fun b h => h.elim⟩
theorem reT_none0 (w : World) : ReT w (fun _ => False) none 0 [] := ⟨Gs.empty _ _ _, fun h => absurd rfl h, (fun x h => by cases h), (fun x h => by cases h), (fun x h => by cases h), fun b h => h.elim⟩
theorem SlOk.nil : SlOk none 0 0 := ⟨fun _ => rfl, Nat.le_refl _, by unfold maxLen; decide⟩
def wdX : Wq := ⟨1, 0, lvS, ⟨#[]⟩, 9, 1, 37, 62⟩
def wdY : Wq := ⟨5, 0, lvS, ⟨#[]⟩, 0, 2, 37, 53⟩
theorem built_lc3 (a b c : Int) : Tryz.prog.built 37 [(0, .int .i64 a), (1, .int .i64 b), (2, .int .i64 c)] = some (lcA a b c) := by kernel_rfl
theorem built_wdX : Tryz.prog.built 39 [(0, .int .i64 1), (2, .agg (bcs lvS)), (4, .int .i64 9), (5, .agg (lcA 1 37 62))] = some (mixC wdX.a wdX.dg wdX.t) := by kernel_rfl
theorem built_wdY : Tryz.prog.built 39 [(0, .int .i64 5), (2, .agg (bcs lvS)), (5, .agg (lcA 2 37 53))] = some (mixC wdY.a wdY.dg wdY.t) := by kernel_rfl
def s1L : Ps := ⟨[⟨lvS, 1, 9, 1, 37, 62, [1]⟩], [], [(1, 62)]⟩
def s2L : Ps := ⟨[⟨lvS, 5, 0, 2, 37, 53, [1]⟩], [], [(1, 62), (2, 53)]⟩
theorem lv1 : applyS (newS (peL []) (ptL []) (psL [])) wdX = s1L := rfl
theorem lv2 : applyS s1L wdY = s2L := rfl
theorem lvH1 : hereP s2L 1 = [] := rfl
theorem lvH2 : (hereP s2L 2).length = 1 := rfl
theorem lvLo : loadsP s2L = [(1, 62, 0), (2, 53, 53)] := rfl
theorem few0 : (newS (peL []) (ptL []) (psL [])).Few := ⟨by decide, by decide, (fun x h => by cases h), (fun x h => by cases h)⟩
theorem few1 : s1L.Few := ⟨by decide, by decide, (fun x h => by rw [show s1L.D = [_] from rfl, List.mem_singleton] at h; rw [h]; decide), (fun x h => by cases h)⟩
theorem few2 : s2L.Few := ⟨by decide, by decide, (fun x h => by rw [show s2L.D = [_] from rfl, List.mem_singleton] at h; rw [h]; decide), (fun x h => by cases h)⟩
set_option maxRecDepth 100000 in
set_option maxHeartbeats 1000000 in
theorem lives22_any {Sx : World → (Nat → Prop) → (Nat → Prop) → Value → Ps → Prop} (hT : StOk Sx) (w : World) : Calls Tryz.prog 22 #[] w fun e w' => e = .returned (.bool true) ∧ Below w.heap.size w w' := by
  have HT := Lib.hid hT
  have HNW := Lib.hid (hT.new (a := 0) (b := 0) (c' := 0) (e := 0) (n := 0) (c := 0) (m := 0) (d := 0) (l := 0) (cr := 0) (D := []) (T := []) (K := []) (reN_none0 w) (reT_none0 w) (Gs.empty encLo w none) SlOk.nil SlOk.nil SlOk.nil SnR.nil (by omega) (by omega) (fun x h => absurd h List.not_mem_nil) (fun x h => absurd h List.not_mem_nil))
  unfold SnC at HNW
  clear hT
  go_enter Tryz.func22, Tryz.ntmps22
  go_upto_region 2 with (go_at_call 8; refine HNW.out.mono ?_; rintro e w1 ⟨v, S, F, rfl, hx1, hs1, hf1, hb1⟩; have HX1 := Lib.hid hx1; have HS1 := Lib.hid hs1; have HB1 := Lib.hid hb1; clear hx1 hs1 hf1 hb1)
  have HAP := Lib.hid (HT.out.apply wdX HX1.out lvS_ok ⟨⟨by decide, by decide⟩, ⟨by decide, by decide⟩⟩ few0)
  rw [lv1] at HAP
  go_upto_region 3 with (first
    | (refine wpList_build_is rfl 35 _ rfl (bcs lvS) ?_ ?_; focus (first | exact built_dg1 | kernel_rfl))
    | (refine wpList_build_is rfl 37 _ rfl (lcA 1 37 62) ?_ ?_; focus (first | exact built_lc3 1 37 62 | kernel_rfl))
    | (refine wpList_build_is rfl 39 _ rfl (mixC wdX.a wdX.dg wdX.t) ?_ ?_; focus (first | exact built_wdX | kernel_rfl))
    | (go_at_call 10; refine HAP.out.mono ?_; rintro e w2 ⟨S2, F2, rfl, hx2, hc2, hs2, hf2⟩; have HX2 := Lib.hid hx2; have HB2 : Hid (Below w.heap.size w w2) := Lib.hid (HB1.out.trans (hc2.below HS1.out HB1.out.size)); have HS2 : Hid (∀ b, S2 b → w.heap.size ≤ b) := Lib.hid (fun b hb => (hs2 b hb).elim (HS1.out b) (fun h => Nat.le_trans HB1.out.size h)); clear hx2 hc2 hs2 hf2))
  have HAQ := Lib.hid (HT.out.apply wdY HX2.out lvS_ok ⟨⟨by decide, by decide⟩, ⟨by decide, by decide⟩⟩ few1)
  rw [lv2] at HAQ
  go_upto_region 4 with (first
    | (refine wpList_build_is rfl 35 _ rfl (bcs lvS) ?_ ?_; focus (first | exact built_dg1 | kernel_rfl))
    | (refine wpList_build_is rfl 37 _ rfl (lcA 2 37 53) ?_ ?_; focus (first | exact built_lc3 2 37 53 | kernel_rfl))
    | (refine wpList_build_is rfl 39 _ rfl (mixC wdY.a wdY.dg wdY.t) ?_ ?_; focus (first | exact built_wdY | kernel_rfl))
    | (go_at_call 10; refine HAQ.out.mono ?_; rintro e w3 ⟨S3, F3, rfl, hx3, hc3, hs3, hf3⟩; have HX3 := Lib.hid hx3; have HB3 : Hid (Below w.heap.size w w3) := Lib.hid (HB2.out.trans (hc3.below HS2.out HB2.out.size)); clear hx3 hc3 hs3 hf3))
  have HLO := Lib.hid (HT.out.loads HX3.out few2)
  rw [lvLo] at HLO
  go_upto_region 5 with (go_at_call 20; refine HLO.out.mono ?_; rintro e w4 ⟨p4, n4, c4, rfl, hg4, _, _, hb4⟩; have HX4 := Lib.hid (HT.out.later HX3.out hb4); have HG4 := Lib.hid hg4; have HB4 := Lib.hid (below_step HB3.out hb4); have HL4 := Lib.hid hg4.len; clear hg4 hb4)
  obtain rfl : n4 = 2 := HL4.out.symm
  have HH1 := Lib.hid (HT.out.here 1 HX4.out few2)
  rw [lvH1] at HH1
  have HH2 := Lib.hid fun W (hW : Below w4.heap.size w4 W) => HT.out.here 2 (HT.out.later HX4.out hW) few2
  obtain ⟨b, off, rfl, _⟩ := HG4.out.lo 0 (by decide)
  have HCE : Hid (∀ W, Below w4.heap.size w4 W → W.cell? ⟨b, off, none⟩ = some (.int .i64 1) ∧ W.cell? ⟨b, off + 1, none⟩ = some (.int .i64 62) ∧ W.cell? ⟨b, off + 2, none⟩ = some (.int .i64 0) ∧ W.cell? ⟨b, off + 3, none⟩ = some (.int .i64 2) ∧ W.cell? ⟨b, off + 4, none⟩ = some (.int .i64 53) ∧ W.cell? ⟨b, off + 5, none⟩ = some (.int .i64 53)) := Lib.hid fun W hW => by
    obtain ⟨b2, off2, hp2, e0, e1, e2⟩ := (HG4.out.later hW).lo 0 (by decide)
    simp only [Option.some.injEq, Addr.mk.injEq, and_true] at hp2
    obtain ⟨rfl, rfl⟩ := hp2
    obtain ⟨b2, off2, hp2, f0, f1, f2⟩ := (HG4.out.later hW).lo 1 (by decide)
    simp only [Option.some.injEq, Addr.mk.injEq, and_true] at hp2
    obtain ⟨rfl, rfl⟩ := hp2
    exact ⟨e0, e1, e2, f0, f1, f2⟩
  have HR0 : Hid (∀ W, Below w4.heap.size w4 W → (Instr.loadAt 97 (.pointer (some ⟨b, off, none⟩))).run Tryz.prog W = .ok (.agg #[.int .i64 1, .int .i64 62, .int .i64 0]) W) := Lib.hid fun W hW => run_loadAt_mid W b off 97 [.int .i64 1, .int .i64 62, .int .i64 0] _ (fun i v hv => by
    obtain ⟨c0, c1, c2, _⟩ := HCE.out W hW
    match i, hv with
    | 0, hv => rw [← hv]; exact c0
    | 1, hv => rw [← hv]; exact c1
    | 2, hv => rw [← hv]; exact c2
    | n + 3, hv => simp at hv) Tryz.underlying97 rfl (by kernel_rfl)
  have HR1 : Hid (∀ W, Below w4.heap.size w4 W → (Instr.loadAt 97 (.pointer (some ⟨b, off + 3, none⟩))).run Tryz.prog W = .ok (.agg #[.int .i64 2, .int .i64 53, .int .i64 53]) W) := Lib.hid fun W hW => run_loadAt_mid W b (off + 3) 97 [.int .i64 2, .int .i64 53, .int .i64 53] _ (fun i v hv => by
    obtain ⟨_, _, _, c0, c1, c2⟩ := HCE.out W hW
    match i, hv with
    | 0, hv => rw [← hv]; exact c0
    | 1, hv => rw [← hv]; exact c1
    | 2, hv => rw [← hv]; exact c2
    | n + 3, hv => simp at hv) Tryz.underlying97 rfl (by kernel_rfl)
  have hq1 := fun W => lo_eq 1 62 0 W
  have hq2 := fun W => lo_eq 2 53 53 W
  clear HCE
  go_wp2_with (first
    | (go_at_call 17; refine (HH2.out _ HB45.out).mono ?_; rintro e w6 ⟨p6, n6, c6, o6, rfl, he6, hg6, _, _, hb6⟩; have HB6 := Lib.hid (below_step HB5.out hb6); have hz6 : n6 = 1 := (by have h1 := hg6.len; rw [← wxL_length, he6, lvH2] at h1; exact h1.symm); subst hz6; have HRA := Lib.hid (HR0.out w6 (below_step HB45.out hb6)); have HRB := Lib.hid (HR1.out w6 (below_step HB45.out hb6)); clear hg6 he6 hb6)
    | (go_at_call 17; refine HH1.out.mono ?_; rintro e w5 ⟨p5, n5, c5, o5, rfl, he5, hg5, _, _, hb5⟩; have HB5 := Lib.hid (below_step HB4.out hb5); have HB45 := Lib.hid hb5; have HN5 := Lib.hid hg5.len; have hz5 : n5 = 0 := (by have h1 := hg5.len; rw [← wxL_length, he5] at h1; exact h1.symm); subst hz5; clear hg5 he5 hb5)
    | (refine wpList_wanted (by rfl) fun K hK => wp_ld 97 _ rfl _ rfl _ HRA.out (hK _ _ ?_); clear hK K)
    | (refine wpList_wanted (by rfl) fun K hK => wp_ld 97 _ rfl _ rfl _ HRB.out (hK _ _ ?_); clear hK K))
  go_ret
  exact ⟨rfl, HB6.out⟩
/-- behind k words -/
structure FewN (x : Ps) (k : Nat) : Prop where
  d : x.D.length ≤ k
  t : x.T.length ≤ k
  l : x.L.length ≤ k
  i : insLe x.D k
  j : insLeT x.T k
theorem FewN.few {x : Ps} {k : Nat} (h : FewN x k) (hk : k ≤ 524288) : x.Few :=
  ⟨by have := h.d; have := h.t; omega, by have := h.l; omega, fun y hy => Nat.le_trans (h.i y hy) (by omega), fun y hy => Nat.le_trans (h.j y hy) (by omega)⟩
theorem FewN.zero : FewN zeroS 0 := ⟨Nat.le_refl _, Nat.le_refl _, Nat.le_refl _, (fun x h => by cases h), (fun x h => by cases h)⟩
theorem applyL_length (l : List (Int × Int)) (w : Wq) : (applyL l w).length ≤ l.length + 1 := by
  unfold applyL
  split
  · exact loadP_length _ _ _ _
  · omega
theorem FewN.apply {x : Ps} {k : Nat} (h : FewN x k) (w : Wq) : FewN (applyS x w) (k + 1) :=
  ⟨by have h1 := applyE_length x.D w; have h2 := h.d; show (applyE x.D w).length ≤ k + 1; omega,
   by have h1 := applyT_length x.T w; have h2 := h.t; show (applyT x.T w).length ≤ k + 1; omega,
   by have h1 := applyL_length x.L w; have h2 := h.l; show (applyL x.L w).length ≤ k + 1; omega,
   applyE_ins h.i, applyT_ins h.j⟩
theorem FewN.mono {x : Ps} {k m : Nat} (h : FewN x k) (hk : k ≤ m) : FewN x m :=
  ⟨Nat.le_trans h.d hk, Nat.le_trans h.t hk, Nat.le_trans h.l hk, fun y hy => Nat.le_trans (h.i y hy) hk, fun y hy => Nat.le_trans (h.j y hy) hk⟩
theorem FewN.fold : ∀ (l : List Wq) {x : Ps} {k : Nat}, FewN x k → FewN (l.foldl applyS x) (k + l.length)
  | [], x, k, h => h
  | w :: l, x, k, h => by
    rw [List.foldl_cons, List.length_cons, show k + (l.length + 1) = (k + 1) + l.length by omega]
    exact FewN.fold l (h.apply w)
theorem zero_new : newS (peL []) (ptL []) (psL []) = zeroS := rfl
theorem row_range {W : World} {b : Nat} {cs : List Value} {t : TypeId} (h : W.heap[b]? = some (.cells cs.toArray t (0, 0))) : W.rangeAt b 0 cs := fun i v hv => by
  rw [Nat.zero_add]
  simp only [World.cell?, h]
  simpa using hv
theorem sn_load {W : World} {b : Nat} {x y z e : Int} {u v s : Value} (h : W.heap[b]? = some (.cells (SnC x y z e u v s) 27 (0, 0))) : (Instr.loadAt 27 (.pointer (some ⟨b, 0, none⟩))).run Tryz.prog W = .ok (.agg (SnC x y z e u v s)) W :=
  run_loadAt_mid W b 0 27 [.int .i64 x, .int .i64 y, .int .i64 z, .int .u64 e, u, v, s] _ (row_range h) Tryz.underlying27 rfl (by kernel_rfl)
/-- rows of entries and of names' entries that are read -/
structure Rd2 (W : World) (p : Option Addr) (n : Nat) (D : List Ex) (q : Option Addr) (m : Nat) (T : List Tx) : Prop where
  d : Gs encEn W p n D
  t : Gs encTn W q m T
  dk : ∀ x ∈ D, dok x.e.dg
  tk : ∀ x ∈ T, dok x.e.dg
  dn : n ≤ 2097152
  tn : m ≤ 2097152
theorem Rd2.later {W V : World} {p q : Option Addr} {n m : Nat} {D : List Ex} {T : List Tx} (h : Rd2 W p n D q m T) (hb : Below W.heap.size W V) : Rd2 V p n D q m T := ⟨h.d.later hb, h.t.later hb, h.dk, h.tk, h.dn, h.tn⟩
theorem getR_dk2 {L : List Ex} (h : ∀ x ∈ L, dok x.e.dg) (d : List Int) : dok (getR (peL L) d).1.dg := by
  unfold getR
  cases hg : getE (peL L) d with
  | none => exact dz32_ok
  | some z =>
    obtain ⟨y, hy, e⟩ := List.mem_map.1 (getE_mem hg).1
    show dok z.dg
    rw [← e]
    exact h y hy
theorem getTR_dk2 {L : List Tx} (h : ∀ x ∈ L, dok x.e.dg) (d : ByteArray) : dok (getTR (ptL L) d).1.dg := by
  unfold getTR
  cases hg : getT (ptL L) d with
  | none => exact dz32_ok
  | some z =>
    obtain ⟨y, hy, e⟩ := List.mem_map.1 (getT_mem hg).1
    show dok z.dg
    rw [← e]
    exact h y hy
theorem slice_of {L : List Ex} {r : Pe} {u : Value} (h : (∃ x ∈ L, x.e = r ∧ u = x.s) ∨ u = .slice none 0 0 ∧ r = zeroE) : ∃ q d, u = .slice q r.ins.length d := by
  rcases h with ⟨x, _, rfl, rfl⟩ | ⟨rfl, rfl⟩
  · exact ⟨_, _, rfl⟩
  · exact ⟨none, 0, rfl⟩
theorem slice_ofT {L : List Tx} {r : Pt} {u : Value} (h : (∃ x ∈ L, x.e = r ∧ u = x.s) ∨ u = .slice none 0 0 ∧ r = zeroT) : ∃ q d, u = .slice q r.ins.length d := by
  rcases h with ⟨x, _, rfl, rfl⟩ | ⟨rfl, rfl⟩
  · exact ⟨_, _, rfl⟩
  · exact ⟨none, 0, rfl⟩
set_option maxRecDepth 100000 in
set_option maxHeartbeats 8000000 in
theorem rsub22_any (p q r p2 q2 r2 : Option Addr) (n m l c d cr n2 m2 l2 c2 d2 cr2 : Nat) (sa sb sc se ta tb tc te : Int) (D D2 : List Ex) (T T2 : List Tx) (X Y : List (Int × Int)) (w : World) (h : Rd2 w p n D q m T) (h2 : Rd2 w p2 n2 D2 q2 m2 T2) (hs : subP ⟨peL D, ptL T, X⟩ ⟨peL D2, ptL T2, Y⟩) :
    Calls Tryz.prog 71 #[.agg (SnC sa sb sc se (.slice p n c) (.slice q m d) (.slice r l cr)), .agg (SnC ta tb tc te (.slice p2 n2 c2) (.slice q2 m2 d2) (.slice r2 l2 cr2))] w fun e w' => e = .returned (.bool true) ∧ Below w.heap.size w w' := by
  obtain ⟨w0, w2, g2, h0, hw2, hg2, hB⟩ := box2 w (SnC sa sb sc se (.slice p n c) (.slice q m d) (.slice r l cr)) (SnC ta tb tc te (.slice p2 n2 c2) (.slice q2 m2 d2) (.slice r2 l2 cr2)) 27 27
  have HB := Lib.hid hB.le
  have HCA : Hid (∀ W, Below w2.heap.size w2 W → W.cell? ⟨w.heap.size, 4, none⟩ = some (.slice p n c) ∧ W.cell? ⟨w.heap.size, 5, none⟩ = some (.slice q m d) ∧ W.cell? ⟨g2, 4, none⟩ = some (.slice p2 n2 c2) ∧ W.cell? ⟨g2, 5, none⟩ = some (.slice q2 m2 d2)) := Lib.hid fun W hW =>
    ⟨cell_of_row _ _ 4 _ _ _ (obj_later hB.a hW), cell_of_row _ _ 5 _ _ _ (obj_later hB.a hW), cell_of_row _ _ 4 _ _ _ (obj_later hB.z hW), cell_of_row _ _ 5 _ _ _ (obj_later hB.z hW)⟩
  have HR := Lib.hid fun W (hW : Below w2.heap.size w2 W) => (h.later hB.le).later hW
  have HR2 := Lib.hid fun W (hW : Below w2.heap.size w2 W) => (h2.later hB.le).later hW
  have HSD : Hid (∀ x ∈ D, x.e.k ≠ 5 → (getR (peL D2) x.e.dg).1.k = x.e.k ∧ (getR (peL D2) x.e.dg).1.z = x.e.z) := Lib.hid fun x hx => hs.1 x.e (List.mem_map.2 ⟨x, hx, rfl⟩)
  have HST : Hid (∀ x ∈ T, x.e.gone = false → (getTR (ptL T2) x.e.nm).2 = true ∧ (getTR (ptL T2) x.e.nm).1.gone = false ∧ (getTR (ptL T2) x.e.nm).1.dg = x.e.dg) := Lib.hid fun x hx => hs.2 x.e (List.mem_map.2 ⟨x, hx, rfl⟩)
  obtain ⟨SA, hSA⟩ : ∃ s, SnC sa sb sc se (.slice p n c) (.slice q m d) (.slice r l cr) = s := ⟨_, rfl⟩
  obtain ⟨SB, hSB⟩ : ∃ s, SnC ta tb tc te (.slice p2 n2 c2) (.slice q2 m2 d2) (.slice r2 l2 cr2) = s := ⟨_, rfl⟩
  rw [hSA] at h0 ⊢
  rw [hSB] at hw2 ⊢
  clear h h2 hs hB hSA hSB
  go_enter Tryz.func71, Tryz.ntmps71
  go_wp2
  clear h0 hw2 hg2
  go_loopw [5] (fun j wr => ∃ k : Nat, k ≤ n ∧ j = .int .i64 (k : Int) ∧ Hid (Below w2.heap.size w2 wr)) (fun j _ => n - (intOf j).toNat)
  case atStart => exact ⟨0, by omega, rfl, Lib.hid (Below.refl _ _)⟩
  case round =>
    obtain ⟨k, hkn, rfl, HBR⟩ := hrel
    obtain ⟨c0, c1, c2', c3⟩ := HCA.out _ HBR.out
    have hnn : n ≤ 2097152 := (HR.out _ HBR.out).dn
    by_cases hlt : k < n
    · obtain ⟨b1, off, y, rfl, hy1, hy3, hyr⟩ := (HR.out _ HBR.out).d.en k hlt
      have HYD := Lib.hid ((HR.out _ HBR.out).dk y hy3)
      have HLY := Lib.hid (en_load hyr)
      have HS := Lib.hid (HSD.out y hy3)
      have hki : (k : Int) < (n : Int) := by omega
      have hk0 : (0 : Int) ≤ (k : Int) := by omega
      clear hyr hy1 hy3
      go_upto_region 5 with (first
        | (refine wpList_ld rfl 59 _ rfl _ rfl _ HLY.out ?_)
        | (refine wpList_store_row rfl 59 _ _ rfl wr.heap.size (enC y.e y.s) rfl rfl 59 _ (heap_alloc_new _ _) (enC_sizeOf y.e _ y.hd) ((enC_size zeroE _ rfl).trans (enC_size y.e _ y.hd).symm) (enC_one _ _ _ _) ?_; generalize hw3 : World.setRow _ _ _ = w3))
      obtain ⟨he3, hb3⟩ := enC_lay rfl hw3
      obtain ⟨g3, hg3⟩ : ∃ g, wr.heap.size = g := ⟨_, rfl⟩
      rw [hg3] at he3
      rw [hg3]
      have HE3 := Lib.hid he3
      have HB3 := Lib.hid (below_step HBR.out hb3)
      have HD3 := Lib.hid (he3.dig y.hd)
      have HGT := Lib.hid (rget20_any p2 n2 c2 D2 y.e.dg w3 (HR2.out _ HB3.out).d (HR2.out _ HB3.out).dk HYD.out (HR2.out _ HB3.out).dn)
      have HRD := Lib.hid (getR_dk2 (HR2.out _ HB3.out).dk y.e.dg)
      clear he3 hb3 hw3 hg3 c0 c1 c2' c3
      obtain ⟨c0, c1, c2', c3⟩ := HCA.out _ HB3.out
      obtain ⟨R, hR⟩ : ∃ R, getR (peL D2) y.e.dg = R := ⟨_, rfl⟩
      rw [hR] at HGT HRD HS
      obtain ⟨R, ok⟩ := R
      dsimp only at HRD HS
      obtain ⟨M, hM⟩ : ∃ M, bcs y.e.dg = M := ⟨_, rfl⟩
      rw [hM] at HD3 HGT
      clear hR hM
      go_upto_region 6 with (first
        | (refine wpList_ld rfl 35 _ rfl _ rfl _ HD3.out ?_)
        | (go_at_call 24; refine HGT.out.mono ?_; rintro e w4 ⟨u4, rfl, ho4, hb4⟩; obtain ⟨q4, d4, hu4⟩ := slice_of ho4; dsimp only at hu4; obtain ⟨m4, hm4⟩ : ∃ z, R.ins.length = z := ⟨_, rfl⟩; rw [hm4] at hu4; subst hu4; have HB4 := Lib.hid hb4; clear ho4 hb4 hm4; dsimp only; unfold enV)
        | (refine wpList_store_row rfl 59 _ _ rfl w4.heap.size (enC R (.slice q4 m4 d4)) rfl rfl 59 _ (heap_alloc_new _ _) (enC_sizeOf R _ HRD.out.1) ((enC_size zeroE _ rfl).trans (enC_size R _ HRD.out.1).symm) (enC_one _ _ _ _) ?_; generalize hw5 : World.setRow _ _ _ = w5))
      obtain ⟨he5, hb5⟩ := enC_lay rfl hw5
      obtain ⟨g5, hg5⟩ : ∃ g, w4.heap.size = g := ⟨_, rfl⟩
      rw [hg5] at he5
      rw [hg5]
      have HB5 := Lib.hid (below_step HB3.out (below_step HB4.out hb5))
      obtain ⟨k0, k1, _⟩ := (HE3.out.later (below_step HB4.out hb5)).cells y.hd
      obtain ⟨r0, r1, _⟩ := he5.cells HRD.out.1
      clear he5 hb5 hw5 hg5 c0 c1 c2' c3
      by_cases h5 : y.e.k = 5
      · have t5 : (y.e.k != 5) = false := by simpa using h5
        generalize y.e.k = kk at *
        clear h5
        go_wp2
        exact ⟨⟨k + 1, by omega, by go_num, HB5⟩, by simp [intOf] <;> omega⟩
      · have t5 : (y.e.k != 5) = true := by simpa using h5
        obtain ⟨e1, e2⟩ := HS.out h5
        have t1 : (R.k != y.e.k) = false := by simpa using e1
        have t2 : (R.z != y.e.z) = false := by simpa using e2
        generalize y.e.k = kk at *
        generalize y.e.z = zz at *
        generalize R.k = rk at *
        generalize R.z = rz at *
        clear h5 e1 e2
        go_wp2
        exact ⟨⟨k + 1, by omega, by go_num, HB5⟩, by simp [intOf] <;> omega⟩
    · obtain rfl : k = n := by omega
      clear hlt
      go_wp2
      clear c0 c1 c2' c3
      go_loopw [9] (fun j wr => ∃ k : Nat, k ≤ m ∧ j = .int .i64 (k : Int) ∧ Hid (Below w2.heap.size w2 wr)) (fun j _ => m - (intOf j).toNat)
      case atStart => exact ⟨0, by omega, rfl, HBR⟩
      case round =>
        obtain ⟨i, him, rfl, HBS⟩ := hrel
        obtain ⟨c0, c1, c2', c3⟩ := HCA.out _ HBS.out
        have hmm : m ≤ 2097152 := (HR.out _ HBS.out).tn
        by_cases hlt2 : i < m
        · obtain ⟨b1, off, y, rfl, hy1, hy3, hyr⟩ := (HR.out _ HBS.out).t.tn i hlt2
          have HYD := Lib.hid ((HR.out _ HBS.out).tk y hy3)
          have HLY := Lib.hid (tn_load hyr)
          have HS := Lib.hid (HST.out y hy3)
          have hki : (i : Int) < (m : Int) := by omega
          have hk0 : (0 : Int) ≤ (i : Int) := by omega
          clear hyr hy1 hy3
          go_upto_region 12 with (first
            | (refine wpList_ld rfl 64 _ rfl _ rfl _ HLY.out ?_)
            | (refine wpList_store_row rfl 64 _ _ rfl wr.heap.size (tnC y.e y.s) rfl rfl 64 _ (heap_alloc_new _ _) (tnC_sizeOf y.e _ y.hd) ((tnC_size zeroT _ rfl).trans (tnC_size y.e _ y.hd).symm) (tnC_one _ _ _ _) ?_; generalize hw3 : World.setRow _ _ _ = w3))
          obtain ⟨he3, hb3⟩ := tnC_lay rfl hw3
          obtain ⟨g3, hg3⟩ : ∃ g, wr.heap.size = g := ⟨_, rfl⟩
          rw [hg3] at he3
          rw [hg3]
          have HE3 := Lib.hid he3
          have HB3 := Lib.hid (below_step HBS.out hb3)
          have HGT := Lib.hid (rget21_any q2 m2 d2 T2 y.e.nm w3 (HR2.out _ HB3.out).t (HR2.out _ HB3.out).tn)
          have HRD := Lib.hid (getTR_dk2 (HR2.out _ HB3.out).tk y.e.nm)
          obtain ⟨n0, _⟩ := he3.cells y.hd
          clear he3 hb3 hw3 hg3 c0 c1 c2' c3
          obtain ⟨c0, c1, c2', c3⟩ := HCA.out _ HB3.out
          obtain ⟨R, hR⟩ : ∃ R, getTR (ptL T2) y.e.nm = R := ⟨_, rfl⟩
          rw [hR] at HGT HRD HS
          obtain ⟨R, ok⟩ := R
          dsimp only at HRD HS
          clear hR
          go_upto_region 13 with (first
            | (go_at_call 26; refine HGT.out.mono ?_; rintro e w4 ⟨u4, rfl, ho4, hb4⟩; obtain ⟨q4, d4, hu4⟩ := slice_ofT ho4; dsimp only at hu4; obtain ⟨m4, hm4⟩ : ∃ z, R.ins.length = z := ⟨_, rfl⟩; rw [hm4] at hu4; subst hu4; have HB4 := Lib.hid hb4; clear ho4 hb4 hm4; dsimp only; unfold tnV)
            | (refine wpList_store_row rfl 64 _ _ rfl w4.heap.size (tnC R (.slice q4 m4 d4)) rfl rfl 64 _ (heap_alloc_new _ _) (tnC_sizeOf R _ HRD.out.1) ((tnC_size zeroT _ rfl).trans (tnC_size R _ HRD.out.1).symm) (tnC_one _ _ _ _) ?_; generalize hw5 : World.setRow _ _ _ = w5))
          obtain ⟨he5, hb5⟩ := tnC_lay rfl hw5
          obtain ⟨g5, hg5⟩ : ∃ g, w4.heap.size = g := ⟨_, rfl⟩
          rw [hg5] at he5
          rw [hg5]
          have HB5 := Lib.hid (below_step HB3.out (below_step HB4.out hb5))
          have HE5 := Lib.hid (HE3.out.later (below_step HB4.out hb5))
          obtain ⟨_, k1, _⟩ := HE5.out.cells y.hd
          obtain ⟨_, r1, _⟩ := he5.cells HRD.out.1
          have HL1 := Lib.hid (he5.dig HRD.out.1)
          have HL2 := Lib.hid (HE5.out.dig y.hd)
          clear he5 hb5 hw5 hg5 c0 c1 c2' c3 n0
          obtain ⟨gy, hgy⟩ : ∃ z, y.e.gone = z := ⟨_, rfl⟩
          rw [hgy] at k1 HS
          clear hgy
          cases gy with
          | true =>
            go_wp2
            exact ⟨⟨i + 1, by omega, by go_num, HB5⟩, by simp [intOf] <;> omega⟩
          | false =>
            obtain ⟨e1, e2, e3⟩ := HS.out rfl
            rw [e2] at r1
            rw [e3] at HL1
            subst e1
            have heq := dig_refl y.e.dg HYD.out
            obtain ⟨M, hM⟩ : ∃ M, bcs y.e.dg = M := ⟨_, rfl⟩
            rw [hM] at HL1 HL2 heq
            clear e2 e3 hM
            go_wp2_with (first
              | (refine wpList_wanted (by rfl) fun K hK => wp_ld 35 _ rfl _ rfl _ HL1.out (hK _ _ ?_); clear hK K)
              | (refine wpList_wanted (by rfl) fun K hK => wp_ld 35 _ rfl _ rfl _ HL2.out (hK _ _ ?_); clear hK K))
            exact ⟨⟨i + 1, by omega, by go_num, HB5⟩, by simp [intOf] <;> omega⟩
        · obtain rfl : i = m := by omega
          have HBE := Lib.hid (below_step HB.out HBS.out)
          clear hlt2
          go_wp2
          go_ret
          exact ⟨rfl, HBE.out⟩
set_option maxRecDepth 100000 in
set_option maxHeartbeats 2000000 in
theorem rthere22_any (p q r p2 q2 r2 : Option Addr) (n m l c d cr n2 m2 l2 c2 d2 cr2 : Nat) (sa sb sc se ta tb tc te : Int) (D D2 : List Ex) (T T2 : List Tx) (X Y : List (Int × Int)) (w : World) (h : Rd2 w p n D q m T) (h2 : Rd2 w p2 n2 D2 q2 m2 T2) (hs : subP ⟨peL D, ptL T, X⟩ ⟨peL D2, ptL T2, Y⟩) (hs2 : subP ⟨peL D2, ptL T2, Y⟩ ⟨peL D, ptL T, X⟩) :
    Calls Tryz.prog 39 #[.agg (SnC sa sb sc se (.slice p n c) (.slice q m d) (.slice r l cr)), .agg (SnC ta tb tc te (.slice p2 n2 c2) (.slice q2 m2 d2) (.slice r2 l2 cr2))] w fun e w' => e = .returned (.bool true) ∧ Below w.heap.size w w' := by
  obtain ⟨w0, w2, g2, h0, hw2, hg2, hB⟩ := box2 w (SnC sa sb sc se (.slice p n c) (.slice q m d) (.slice r l cr)) (SnC ta tb tc te (.slice p2 n2 c2) (.slice q2 m2 d2) (.slice r2 l2 cr2)) 27 27
  have HB := Lib.hid hB.le
  have HLA := Lib.hid fun W (hW : Below w2.heap.size w2 W) => sn_load (obj_later hB.a hW)
  have HLB := Lib.hid fun W (hW : Below w2.heap.size w2 W) => sn_load (obj_later hB.z hW)
  have HS1 := Lib.hid fun W (hW : Below w2.heap.size w2 W) => rsub22_any p q r p2 q2 r2 n m l c d cr n2 m2 l2 c2 d2 cr2 sa sb sc se ta tb tc te D D2 T T2 X Y W ((h.later hB.le).later hW) ((h2.later hB.le).later hW) hs
  have HS2 := Lib.hid fun W (hW : Below w2.heap.size w2 W) => rsub22_any p2 q2 r2 p q r n2 m2 l2 c2 d2 cr2 n m l c d cr ta tb tc te sa sb sc se D2 D T2 T Y X W ((h2.later hB.le).later hW) ((h.later hB.le).later hW) hs2
  have HR0 : Hid (Below w2.heap.size w2 w2) := Lib.hid (Below.refl _ _)
  obtain ⟨SA, hSA⟩ : ∃ s, SnC sa sb sc se (.slice p n c) (.slice q m d) (.slice r l cr) = s := ⟨_, rfl⟩
  obtain ⟨SB, hSB⟩ : ∃ s, SnC ta tb tc te (.slice p2 n2 c2) (.slice q2 m2 d2) (.slice r2 l2 cr2) = s := ⟨_, rfl⟩
  rw [hSA] at h0 HLA HS1 HS2 ⊢
  rw [hSB] at hw2 HLB HS1 HS2 ⊢
  clear h h2 hs hs2 hB hSA hSB
  go_enter Tryz.func39, Tryz.ntmps39
  go_upto_region 1 with fail
  clear h0 hw2 hg2
  go_wp2_with (first
    | (refine wpList_ld rfl 27 _ rfl _ rfl _ (HLA.out _ HR0.out) ?_)
    | (refine wpList_ld rfl 27 _ rfl _ rfl _ (HLB.out _ HR0.out) ?_)
    | (go_at_call 71; (fail_if_success (have hh := HB3.out)); refine (HS1.out _ HR0.out).mono ?_; rintro e w3 ⟨rfl, hb3⟩; have HB3 := Lib.hid hb3; clear hb3)
    | (refine wpList_wanted (by rfl) fun K hK => wp_ld 27 _ rfl _ rfl _ (HLB.out _ HB3.out) (hK _ _ ?_); clear hK K)
    | (refine wpList_wanted (by rfl) fun K hK => wp_ld 27 _ rfl _ rfl _ (HLA.out _ HB3.out) (hK _ _ ?_); clear hK K)
    | (go_at_call 71; refine (HS2.out _ HB3.out).mono ?_; rintro e w4 ⟨rfl, hb4⟩; have HB4 := Lib.hid (below_step HB3.out hb4); clear hb4))
  go_ret
  exact ⟨rfl, below_step HB.out HB4.out⟩
/-- a word at another place -/
def cpw (tg : Int) (w : Wq) (i : Nat) : Wq := { w with seg := tg, off := ((100 * i : Nat) : Int) }
def cpL (tg : Int) (H : List Wq) (k : Nat) : List Wq := (List.range k).map fun i => cpw tg (H.getD i wq0) i
theorem cpL_succ (tg : Int) (H : List Wq) (k : Nat) : cpL tg H (k + 1) = cpL tg H k ++ [cpw tg (H.getD k wq0) k] := by
  unfold cpL
  rw [List.range_succ, List.map_append]
  rfl
theorem cpL_length (tg : Int) (H : List Wq) (k : Nat) : (cpL tg H k).length = k := by unfold cpL; rw [List.length_map, List.length_range]
theorem cpL_fold (tg : Int) (H : List Wq) (k : Nat) (s : Ps) : (cpL tg H (k + 1)).foldl applyS s = applyS ((cpL tg H k).foldl applyS s) (cpw tg (H.getD k wq0) k) := by
  rw [cpL_succ, List.foldl_append]
  rfl
theorem getD_in {H : List Wq} {i : Nat} (h : i < H.length) : H.getD i wq0 ∈ H := by
  rw [List.getD_eq_getElem?_getD, List.getElem?_eq_getElem h]
  exact List.getElem_mem h
theorem copies_all {s : Ps} (ho : s.Ok) (hk : kindsOk s.D) {sg tg : Int} (hne : sg ≠ tg) : hereP ((cpL tg (hereP s sg) (hereP s sg).length).foldl applyS s) sg = [] ∧ subP s ((cpL tg (hereP s sg) (hereP s sg).length).foldl applyS s) ∧ subP ((cpL tg (hereP s sg) (hereP s sg).length).foldl applyS s) s := by
  refine copies ho hk hne (fun x hx => ?_) (fun w hw => ?_)
  · obtain ⟨i, hi, rfl⟩ := List.mem_map.1 hx
    exact ⟨_, getD_in (List.mem_range.1 hi), rfl, rfl, rfl, rfl, rfl⟩
  · obtain ⟨i, hi, he⟩ := List.getElem_of_mem hw
    refine ⟨cpw tg ((hereP s sg).getD i wq0) i, List.mem_map.2 ⟨i, List.mem_range.2 hi, rfl⟩, ?_⟩
    have e : (hereP s sg).getD i wq0 = w := by rw [List.getD_eq_getElem?_getD, List.getElem?_eq_getElem hi, he]; rfl
    rw [e]
    exact ⟨rfl, rfl, rfl⟩
theorem setCells_szX (b : Nat) : ∀ (vs : List Value) (o : Nat) (W : World), (W.setCells b o vs).heap.size = W.heap.size
  | [], _, _ => rfl
  | v :: vs, o, W => by rw [World.setCells, setCells_szX b vs, World.size_setCell]
/-- the place of a word in a block is stored -/
theorem Wm.setLoc {W : World} {g : Nat} {y : Wq} (h : Wm W g y) (hd : y.dg.length = 32) (a b c : Int) : Wm (W.setCells g 36 (lcA a b c).toList) g { y with seg := a, off := b, len := c } := by
  have e : ∀ (x u v : Int), mixL y.a y.dg [Value.string y.nm, Value.int .i64 y.z, Value.int .i64 x, Value.int .i64 u, Value.int .i64 v] = (y.a ++ (y.dg.map (Value.int .u8) ++ [Value.string y.nm, Value.int .i64 y.z])) ++ ([Value.int .i64 x, Value.int .i64 u, Value.int .i64 v] ++ []) := fun x u v => by
    unfold mixL
    simp
  have h0 : W.heap[g]? = some (.cells ((y.a ++ (y.dg.map (Value.int .u8) ++ [Value.string y.nm, Value.int .i64 y.z])) ++ ([Value.int .i64 y.seg, Value.int .i64 y.off, Value.int .i64 y.len] ++ [])).toArray 39 (0, 0)) := by
    rw [← e]
    exact h
  have hl : (y.a ++ (y.dg.map (Value.int .u8) ++ [Value.string y.nm, Value.int .i64 y.z])).length = 36 := by
    rw [List.length_append, List.length_append, List.length_map, hd]
    rfl
  have h1 := setCells_row g 39 [] [Value.int .i64 a, Value.int .i64 b, Value.int .i64 c] _ _ W h0 rfl
  rw [hl, ← e] at h1
  exact h1
theorem wd_lay22c {w W : World} {x : Wq} {b : Nat} (hb : w.heap.size = b) (h : (w.alloc (.cells (mixC wq0.a wq0.dg wq0.t) 39)).setRow b (mixC x.a x.dg x.t) = W) : Wm W b x ∧ Below w.heap.size w W := by
  subst hb
  rw [← h]
  exact ⟨Mx.row (show Wm (w.alloc (.cells (mixC wq0.a wq0.dg wq0.t) 39)) w.heap.size wq0 from heap_alloc_new _ _), below_setRow8 ((Below.refl _ _).alloc (Nat.le_refl _) _) _ _ (Nat.le_refl _)⟩
section
variable {Sx : World → (Nat → Prop) → (Nat → Prop) → Value → Ps → Prop}
/-- a state between words, and blocks of N beside it, which are as they were -/
structure CpI (Sx : World → (Nat → Prop) → (Nat → Prop) → Value → Ps → Prop) (w B W : World) (v : Value) (S F N : Nat → Prop) (x : Ps) : Prop where
  st : Sx W S F v x
  ds : ∀ b, S b → ¬ N b
  nl : ∀ b, N b → b < B.heap.size
  eq : ∀ b, N b → W.heap[b]? = B.heap[b]?
  sz : B.heap.size ≤ W.heap.size
  sa : ∀ b, S b → w.heap.size ≤ b
  le : Below w.heap.size w W
variable {w B W V : World} {v : Value} {S F N S' F' : Nat → Prop} {x x' : Ps}
theorem CpI.later (hT : StOk Sx) (h : CpI Sx w B W v S F N x) (hb : Below W.heap.size W V) : CpI Sx w B V v S F N x :=
  ⟨hT.later h.st hb, h.ds, h.nl, fun b hN => (hb.block b (Nat.lt_of_lt_of_le (h.nl b hN) h.sz)).trans (h.eq b hN), Nat.le_trans h.sz hb.size, h.sa, below_step h.le hb⟩
theorem CpI.op (h : CpI Sx w B W v S F N x) (hx : Sx V S' F' v x') (hc : Chg S W V) (hs : ∀ b, S' b → S b ∨ W.heap.size ≤ b) : CpI Sx w B V v S' F' N x' :=
  ⟨hx, fun b hS hN => (hs b hS).elim (fun h1 => h.ds b h1 hN) (fun h1 => absurd (Nat.lt_of_lt_of_le (h.nl b hN) h.sz) (Nat.not_lt.2 h1)), h.nl, fun b hN => (hc.block b (Nat.lt_of_lt_of_le (h.nl b hN) h.sz) (fun hS => h.ds b hS hN)).trans (h.eq b hN), Nat.le_trans h.sz hc.size,
   fun b hS => (hs b hS).elim (h.sa b) (Nat.le_trans h.le.size), h.le.trans (hc.below h.sa h.le.size)⟩
end
theorem take_foldc {L : List Wq} {k : Nat} {x : Wq} (h : L[k]? = some x) (s : Ps) : (L.take (k + 1)).foldl applyS s = applyS ((L.take k).foldl applyS s) x := by
  obtain ⟨h2, h3⟩ := List.getElem?_eq_some_iff.1 h
  rw [List.take_succ_eq_append_getElem h2, h3, List.foldl_append]
  rfl
theorem sizeSnc : (Tryz.prog.info? 27).map (·.size) = some 7 := by kernel_rfl
set_option maxRecDepth 100000 in
set_option maxHeartbeats 8000000 in
theorem statecopies_any {Sx : World → (Nat → Prop) → (Nat → Prop) → Value → Ps → Prop} (hT : StOk Sx) (p : Option Addr) (n c : Nat) (L : List Wx) (sg tg : Int) (w : World) (h : Gs encWd w p n L) (hk : ∀ x ∈ L, dok x.1.dg ∧ x.1.In) (hn : n ≤ 170000) (hto : -9223372036854775808 ≤ tg ∧ tg ≤ 9223372036854775807) :
    Calls Tryz.prog 6 #[.slice p n c, .int .i64 sg, .int .i64 tg] w fun e w' => e = .returned (.bool true) ∧ Below w.heap.size w w' := by
  have HT := Lib.hid hT
  have H := Lib.hid h
  have HKD := Lib.hid hk
  have HLL : Hid ((wxL L).length = n) := Lib.hid (by rw [wxL_length, h.len])
  have HNW := Lib.hid fun W => (hT.new (w := W) (a := 0) (b := 0) (c' := 0) (e := 0) (n := 0) (c := 0) (m := 0) (d := 0) (l := 0) (cr := 0) (D := []) (T := []) (K := []) (reN_none0 W) (reT_none0 W) (Gs.empty encLo W none) SlOk.nil SlOk.nil SlOk.nil SnR.nil (by omega) (by omega) (fun x h => absurd h List.not_mem_nil) (fun x h => absurd h List.not_mem_nil))
  have HLV := Lib.hid fun W => lives22_any hT W
  unfold SnC at HNW
  rw [zero_new] at HNW
  have HTO : Hid (Rgi tg) := Lib.hid hto
  clear hT h hk hto
  go_enter Tryz.func6, Tryz.ntmps6
  go_upto_region 2 with (go_at_call 8; refine (HNW.out _).mono ?_; rintro e w1 ⟨v, S0, F0, rfl, hx1, hs1, hf1, hb1⟩; have HX1 := Lib.hid hx1; have HS1 := Lib.hid hs1; have HB1 := Lib.hid hb1; clear hx1 hs1 hf1 hb1)
  have HI0 : Hid (CpI Sx w w w1 v S0 F0 (fun _ => False) zeroS) := Lib.hid ⟨HX1.out, fun b _ h => h, fun b h => h.elim, fun b h => h.elim, HB1.out.size, HS1.out, HB1.out⟩
  go_wp2
  go_loopw [8] (fun j wr => ∃ (k : Nat) (S F : Nat → Prop), k ≤ n ∧ j = .int .i64 (k : Int) ∧ Hid (CpI Sx w w wr v S F (fun _ => False) (((wxL L).take k).foldl applyS zeroS))) (fun j _ => n - (intOf j).toNat)
  case atStart => exact ⟨0, S0, F0, by omega, rfl, HI0⟩
  case round =>
    clear HI0
    obtain ⟨k, S, F, hkn, rfl, HI⟩ := hrel
    by_cases hlt : k < n
    · obtain ⟨b1, off, y, rfl, hy1, hy3, hr⟩ := (H.out.later HI.out.le).wx k hlt
      have HYD := Lib.hid (HKD.out y hy3).1
      have HYN := Lib.hid (HKD.out y hy3).2
      have HTF := Lib.hid (take_foldc (wxL_get hy1) zeroS)
      have HFA := Lib.hid ((FewN.fold ((wxL L).take k) FewN.zero).few (by rw [List.length_take]; omega))
      have HLA := Lib.hid (wx_load hr)
      have HAP := Lib.hid (HT.out.apply y.1 HI.out.st HYD.out HYN.out HFA.out)
      rw [← HTF.out] at HAP
      unfold Wq.v at HAP
      have hki : (k : Int) < (n : Int) := by omega
      have hk0 : (0 : Int) ≤ (k : Int) := by omega
      clear hr hy1 hy3
      go_wp2_with (first
        | (refine wpList_ld rfl 39 _ rfl _ rfl _ HLA.out ?_)
        | (go_at_call 10; refine HAP.out.mono ?_; rintro e w3 ⟨S3, F3, rfl, hx3, hc3, hs3, hf3⟩; have HI3 := Lib.hid (HI.out.op hx3 hc3 hs3); clear hx3 hc3 hs3 hf3))
      exact ⟨⟨k + 1, _, _, by omega, by go_num, HI3⟩, by simp [intOf] <;> omega⟩
    · obtain rfl : k = n := by omega
      have HTL : Hid ((wxL L).take k = wxL L) := Lib.hid (List.take_of_length_le (by rw [HLL.out]; exact Nat.le_refl _))
      have HI1 := Lib.hid HI.out
      rw [HTL.out] at HI1
      have HF1 : Hid (FewN ((wxL L).foldl applyS zeroS) k) := Lib.hid (by have h1 := FewN.fold (wxL L) FewN.zero; rw [HLL.out, Nat.zero_add] at h1; exact h1)
      have HKO : Hid (kindsOk ((wxL L).foldl applyS zeroS).D) := Lib.hid (kinds_fold (wxL L) (fun e he => by cases he))
      clear HI hlt
      generalize (wxL L).foldl applyS zeroS = s1 at *
      have HOK := Lib.hid (HT.out.ok HI1.out.st)
      by_cases hst : sg = tg
      · have hsb : (sg == tg) = true := by simpa using hst
        have HBE := Lib.hid HI1.out.le
        clear hst
        go_wp2_with (go_at_call 22; refine (HLV.out _).mono ?_; rintro e w3 ⟨rfl, hb3⟩; have HB3 := Lib.hid (below_step HBE.out hb3); clear hb3)
        go_ret
        exact ⟨rfl, HB3.out⟩
      · have hsb : (sg == tg) = false := by simpa using hst
        have HNE := Lib.hid hst
        have HCA := Lib.hid (copies_all HOK.out.1 HKO.out hst)
        have HFS : Hid s1.Few := Lib.hid (HF1.out.few (by omega))
        have HHL : Hid ((hereP s1 sg).length ≤ 2 * k) := Lib.hid (by have h1 := hereP_length s1 sg; have h2 := HF1.out.d; have h3 := HF1.out.t; omega)
        have HHN := Lib.hid (hereP_in HOK.out.2.2.2 sg)
        have HHD : Hid (∀ z ∈ hereP s1 sg, dok z.dg) := Lib.hid fun z hz => by
          rcases mem_hereP.1 hz with ⟨e, he, _, hw⟩ | ⟨t, ht, _, hw⟩
          · rw [← hw]; exact HOK.out.2.1 e he
          · rw [← hw]; exact HOK.out.2.2.1 t ht
        have HSN := Lib.hid (HT.out.snapshot HI1.out.st HFS.out)
        clear hst
        go_upto_region 9 with (first
          | (go_at_call 15; refine HSN.out.mono ?_; rintro e w2 ⟨p1, n1, c1, D1, p2, n2, c2, T1, p3, n3, c3, N1, rfl, e1, e2, g1, g2, g3, kN, _, _, _, _, hb⟩; have HG := (Lib.hid (And.intro e1 (And.intro e2 (And.intro g1 g2)))); have HKN := Lib.hid kN; have HBS := Lib.hid hb; clear e1 e2 g1 g2 g3 kN hb)
          | (refine wpList_store_row rfl 27 _ _ rfl w2.heap.size (SnC 0 0 0 0 (.slice p1 n1 c1) (.slice p2 n2 c2) (.slice p3 n3 c3)) rfl rfl 27 _ (heap_alloc_new _ _) sizeSnc rfl (by simp [SnC, Value.oneCell']) ?_; generalize hw3 : World.setRow _ _ _ = w3))
        obtain ⟨G9, hG9⟩ : ∃ g, w2.heap.size = g := ⟨_, rfl⟩
        have HSB : Hid (w3.heap[G9]? = some (.cells (SnC 0 0 0 0 (.slice p1 n1 c1) (.slice p2 n2 c2) (.slice p3 n3 c3)) 27 (0, 0)) ∧ Below w2.heap.size w2 w3) := Lib.hid (by rw [← hw3, ← hG9]; exact ⟨setRow_heap _ _ _ _ _ _ (heap_alloc_new _ _), below_setRow8 ((Below.refl _ _).alloc (Nat.le_refl _) _) _ _ (Nat.le_refl _)⟩)
        have HGL : Hid (wr.heap.size ≤ G9) := Lib.hid (by rw [← hG9]; exact HBS.out.size)
        have HB3 := Lib.hid (below_step HBS.out HSB.out.2)
        have HI3 := Lib.hid (HI1.out.later HT.out HB3.out)
        have HHE := Lib.hid (HT.out.here sg HI3.out.st HFS.out)
        rw [hG9]
        clear hw3 hG9
        go_upto_region 10 with (go_at_call 17; refine HHE.out.mono ?_; rintro e w4 ⟨p4, n4, c4, o4, rfl, he4, hg4, hi4, _, hb4⟩; have HO4 := Lib.hid (And.intro he4 (And.intro hg4 hi4)); have HB4 := Lib.hid hb4; clear he4 hg4 hi4 hb4)
        obtain ⟨N, hN⟩ : ∃ N : Nat → Prop, N = fun b => N1 b ∨ b = G9 ∨ (n4 ≠ 0 ∧ ∃ off, p4 = some ⟨b, off, none⟩) := ⟨_, rfl⟩
        have HSG4 := Lib.hid (obj_later HSB.out.1 HB4.out)
        have HG94 : Hid (G9 < w4.heap.size) := Lib.hid (Array.getElem?_eq_some_iff.1 HSG4.out).1
        have HRN4 := Lib.hid (((HG.out.2.2.1.later HSB.out.2).later HB4.out))
        have HRT4 := Lib.hid (((HG.out.2.2.2.later HSB.out.2).later HB4.out))
        have HI4 : Hid (CpI Sx w w4 w4 v S F N s1) := Lib.hid (by
          have h1 := HI3.out.later HT.out HB4.out
          have hlt := HT.out.lt HI1.out.st
          have hlt3 := HT.out.lt HI3.out.st
          have hdis := HT.out.dis HI1.out.st
          refine ⟨h1.st, fun b hS hNb => ?_, fun b hNb => ?_, fun _ _ => rfl, Nat.le_refl _, h1.sa, h1.le⟩
          · rw [hN] at hNb
            rcases hNb with hNb | hNb | ⟨hz, off, hNb⟩
            · exact (HKN.out b hNb).elim (hdis b hS) (fun h2 => absurd (hlt b (Or.inl hS)) (Nat.not_lt.2 h2))
            · have h2 := hlt b (Or.inl hS); have h3 := HGL.out; omega
            · exact (HO4.out.2.2 hz b off hNb).elim (hdis b hS) (fun h2 => absurd (hlt3 b (Or.inl hS)) (Nat.not_lt.2 h2))
          · rw [hN] at hNb
            rcases hNb with hNb | hNb | ⟨hz, off, hNb⟩
            · exact HRN4.out.lt b hNb
            · rw [hNb]; exact HG94.out
            · have h5 := HO4.out.2.1; subst hNb; exact h5.block_lt (by omega))
        have HRD : Hid (∀ W, (∀ b, N b → W.heap[b]? = w4.heap[b]?) → w4.heap.size ≤ W.heap.size → ReN W N1 p1 n1 D1 ∧ ReT W N1 p2 n2 T1 ∧ W.heap[G9]? = some (.cells (SnC 0 0 0 0 (.slice p1 n1 c1) (.slice p2 n2 c2) (.slice p3 n3 c3)) 27 (0, 0)) ∧ Gs encWd W p4 n4 o4) := Lib.hid fun W hW hz =>
          ⟨HRN4.out.hold (fun b hb => hW b (by rw [hN]; exact Or.inl hb)) hz, HRT4.out.hold (fun b hb => hW b (by rw [hN]; exact Or.inl hb)) hz, (hW G9 (by rw [hN]; exact Or.inr (Or.inl rfl))).trans HSG4.out, HO4.out.2.1.hold (fun hn b off e => hW b (by rw [hN]; exact Or.inr (Or.inr ⟨hn, off, e⟩)))⟩
        have HWX : Hid (wxL o4 = hereP s1 sg) := Lib.hid HO4.out.1
        have HN4 : Hid (n4 = (hereP s1 sg).length) := Lib.hid (by rw [← HO4.out.1, wxL_length, HO4.out.2.1.len])
        have hn4 : n4 ≤ 340000 := by have h1 := HN4.out; have h2 := HHL.out; omega
        have HED := Lib.hid (And.intro HG.out.1 HG.out.2.1)
        clear hN HI3 HHE HO4 HSN HG HKN HSB HSG4 HRN4 HRT4 hsb
        go_wp2
        go_loopw [11] (fun j wr => ∃ (i : Nat) (S F : Nat → Prop), i ≤ n4 ∧ j = .int .i64 (i : Int) ∧ Hid (CpI Sx w w4 wr v S F N ((cpL tg (hereP s1 sg) i).foldl applyS s1))) (fun j _ => n4 - (intOf j).toNat)
        case atStart => exact ⟨0, S, F, by omega, rfl, HI4⟩
        case round =>
          clear HI1 HI4
          obtain ⟨i, S2, F2, hin, rfl, HJ⟩ := hrel
          obtain ⟨_, _, _, hgw⟩ := HRD.out _ HJ.out.eq HJ.out.sz
          by_cases hlt : i < n4
          · obtain ⟨b1, off, y, rfl, hy1, hy3, hr⟩ := hgw.wx i hlt
            have hge : (hereP s1 sg).getD i wq0 = y.1 := by
              rw [← HWX.out, List.getD_eq_getElem?_getD, wxL_get hy1]
              rfl
            have HYD : Hid (dok y.1.dg) := Lib.hid (HHD.out y.1 (by rw [← HWX.out]; exact List.mem_map.2 ⟨y, hy3, rfl⟩))
            have HYN : Hid (y.1.In) := Lib.hid (HHN.out y.1 (by rw [← HWX.out]; exact List.mem_map.2 ⟨y, hy3, rfl⟩))
            have HCF := Lib.hid (cpL_fold tg (hereP s1 sg) i s1)
            rw [hge] at HCF
            have HFA := Lib.hid ((FewN.fold (cpL tg (hereP s1 sg) i) HF1.out).few (by rw [cpL_length]; omega))
            have HLA := Lib.hid (wx_load hr)
            have hki : (i : Int) < (n4 : Int) := by omega
            have hk0 : (0 : Int) ≤ (i : Int) := by omega
            have HYL : Hid (y.1.dg.length = 32) := Lib.hid y.2
            clear hr hy1 hy3 hge hgw
            go_upto_region 14 with (first
              | (refine wpList_ld rfl 39 _ rfl _ rfl _ HLA.out ?_)
              | (refine wpList_store_row rfl 39 _ _ rfl wr.heap.size (mixC y.1.a y.1.dg y.1.t) rfl rfl 39 _ (heap_alloc_new _ _) (y.1.sizeOf HYL.out) (Wq.sizes wq0 y.1 rfl HYL.out) y.1.one ?_; generalize hw5 : World.setRow _ _ _ = w5))
            obtain ⟨hm5, hb5⟩ := wd_lay22c rfl hw5
            obtain ⟨g5, hg5⟩ : ∃ g, wr.heap.size = g := ⟨_, rfl⟩
            rw [hg5] at hm5
            have HM5 := Lib.hid hm5
            have HJ5 := Lib.hid (HJ.out.later HT.out hb5)
            have HG5 : Hid (¬ S2 g5 ∧ ¬ F2 g5 ∧ ¬ N g5 ∧ w.heap.size ≤ g5) := Lib.hid (by
              have h1 := HT.out.lt HJ.out.st
              refine ⟨fun e => ?_, fun e => ?_, fun e => ?_, by rw [← hg5]; exact HJ.out.le.size⟩
              · have h2 := h1 g5 (Or.inl e); omega
              · have h2 := h1 g5 (Or.inr e); omega
              · have h2 := HJ.out.nl g5 e; have h3 := HJ.out.sz; omega)
            rw [hg5]
            obtain ⟨l0, l1, l2⟩ : w5.cell? ⟨g5, 36, none⟩ = some (.int .i64 y.1.seg) ∧ w5.cell? ⟨g5, 37, none⟩ = some (.int .i64 y.1.off) ∧ w5.cell? ⟨g5, 38, none⟩ = some (.int .i64 y.1.len) := ⟨Mx.last hm5 HYL.out 2 _ rfl, Mx.last hm5 HYL.out 3 _ rfl, Mx.last hm5 HYL.out 4 _ rfl⟩
            have hwm : IntKind.i64.wrap (100 * (i : Int)) = 100 * (i : Int) := by rw [IntKind.wrap_i64]; omega
            have HTH : Hid (w5.there g5 36 3) := Lib.hid (Mx.there hm5 36 3 (by rw [HYL.out]; show 36 + 3 ≤ 2 + 32 + 5; omega))
            have HM6 := Lib.hid (Wm.setLoc hm5 HYL.out tg (100 * (i : Int)) y.1.len)
            have HK6 : Hid (∀ b, b ≠ g5 → (w5.setCells g5 36 (lcA tg (100 * (i : Int)) y.1.len).toList).heap[b]? = w5.heap[b]?) := Lib.hid fun b hb => setCells_other g5 b hb _ _ _
            have HB6 : Hid (Below w.heap.size w (w5.setCells g5 36 (lcA tg (100 * (i : Int)) y.1.len).toList)) := Lib.hid (below_setCells HG5.out.2.2.2 _ _ _ HJ5.out.le)
            have HS6 : Hid ((w5.setCells g5 36 (lcA tg (100 * (i : Int)) y.1.len).toList).heap.size = w5.heap.size) := Lib.hid (setCells_szX _ _ _ _)
            clear hm5 hb5 hw5 hg5
            go_upto_region 15 with (first
              | (refine wpList_build_is rfl 37 _ rfl (lcA tg (100 * (i : Int)) y.1.len) ?_ ?_; focus (first | exact built_lc3 _ _ _ | (simp only [List.map_toArray, List.map_cons, List.map_nil]; exact built_lc3 _ _ _)))
              | (refine wpList_store_mid rfl 37 _ _ rfl g5 36 (lcA tg (100 * (i : Int)) y.1.len) rfl rfl HTH.out (by exact sizeL3) (by simp [lcA, Value.oneCell']) ?_))
            generalize World.setCells _ _ _ _ = w6 at *
            have HJ6 : Hid (CpI Sx w w4 w6 v S2 F2 N ((cpL tg (hereP s1 sg) i).foldl applyS s1)) := Lib.hid
              ⟨HT.out.keep HJ5.out.st (fun b hb => HK6.out b (fun e => hb.elim (fun e2 => HG5.out.1 (by rw [← e]; exact e2)) (fun e2 => HG5.out.2.1 (by rw [← e]; exact e2)))) (by rw [HS6.out]; exact Nat.le_refl _), HJ5.out.ds, HJ5.out.nl, fun b hb => (HK6.out b (fun e => HG5.out.2.2.1 (by rw [← e]; exact hb))).trans (HJ5.out.eq b hb), by rw [HS6.out]; exact HJ5.out.sz, HJ5.out.sa, HB6.out⟩
            have HLX := Lib.hid (HM6.out.load HYL.out)
            have HAP := Lib.hid (HT.out.apply (cpw tg y.1 i) HJ6.out.st HYD.out ⟨HTO.out, HYN.out.2⟩ HFA.out)
            rw [← HCF.out] at HAP
            unfold Wq.v at HAP
            have HEQ : Hid (mixC (cpw tg y.1 i).a (cpw tg y.1 i).dg (cpw tg y.1 i).t = mixC y.1.a y.1.dg [.string y.1.nm, .int .i64 y.1.z, .int .i64 tg, .int .i64 (100 * (i : Int)), .int .i64 y.1.len]) := Lib.hid rfl
            rw [HEQ.out] at HAP
            clear l0 l1 l2
            go_wp2_with (first
              | (refine wpList_ld rfl 39 _ rfl _ rfl _ HLX.out ?_)
              | (go_at_call 10; refine HAP.out.mono ?_; rintro e w7 ⟨S7, F7, rfl, hx7, hc7, hs7, hf7⟩; have HJ7 := Lib.hid (HJ6.out.op hx7 hc7 hs7); clear hx7 hc7 hs7 hf7))
            exact ⟨⟨i + 1, _, _, by omega, by go_num, HJ7⟩, by simp [intOf] <;> omega⟩
          · obtain rfl : i = n4 := by omega
            have HJE := Lib.hid HJ.out
            rw [HN4.out] at HJE
            have HFE : Hid (((cpL tg (hereP s1 sg) (hereP s1 sg).length).foldl applyS s1).Few) := Lib.hid ((FewN.fold (cpL tg (hereP s1 sg) (hereP s1 sg).length) HF1.out).few (by rw [cpL_length]; have := HN4.out; omega))
            clear HJ hgw
            generalize (cpL tg (hereP s1 sg) (hereP s1 sg).length).foldl applyS s1 = s2 at *
            have HHE := Lib.hid fun W (hW : Below wr.heap.size wr W) => HT.out.here sg (HT.out.later HJE.out.st hW) HFE.out
            have HSN := Lib.hid fun W (hW : Below wr.heap.size wr W) => HT.out.snapshot (HT.out.later HJE.out.st hW) HFE.out
            have HRR := Lib.hid (HRD.out _ HJE.out.eq HJE.out.sz)
            have HLS := Lib.hid fun W (hW : Below wr.heap.size wr W) => sn_load (obj_later HRR.out.2.2.1 hW)
            have HLD : Hid (n1 ≤ 2097152 ∧ n2 ≤ 2097152) := Lib.hid (by have h1 := HFS.out.n; rw [← HED.out.1, ← HED.out.2, peL_length, ptL_length, HRR.out.1.gs.len, HRR.out.2.1.gs.len] at h1; omega)
            have HRA : Hid (∀ W, Below wr.heap.size wr W → Rd2 W p1 n1 D1 p2 n2 T1) := Lib.hid fun W hW => ⟨(HRR.out.1.later hW).gs, (HRR.out.2.1.later hW).gs, HRR.out.1.dk, HRR.out.2.1.dk, HLD.out.1, HLD.out.2⟩
            have HSS : Hid (∀ W, Below wr.heap.size wr W → (fun W => W.cell? ⟨G9, 0, none⟩ = some (.int .i64 0) ∧ Below wr.heap.size wr W) W) := Lib.hid fun W hW => ⟨cell_of_row _ _ 0 _ _ _ (obj_later HRR.out.2.2.1 hW), hW⟩
            have HLW := Lib.hid HJE.out.le
            clear hlt
            go_upto_region 16 with fail
            refine wp_region_held_drew (S := (fun W => W.cell? ⟨G9, 0, none⟩ = some (.int .i64 0) ∧ Below wr.heap.size wr W)) (by kernel_rfl) (HSS.out _ (Below.refl _ _).drew) (fun hHeld => ?_)
            refine take_at 0 (v := ?vv1) rfl (by kernel_rfl) (by kernel_rfl) (by kernel_rfl) (fun _ _ _ h => h) (Or.inl ⟨by rfl, ?hy1⟩) (by assumption) ?rest1
            case hy1 => intro w hSw; (try dsimp only at hSw); go_simp; (try with_reducible rfl)
            (try simp only [PT])
            refine take_at 1 (v := ?vv2) rfl (by kernel_rfl) (by kernel_rfl) (by kernel_rfl) (fun _ _ _ h => h) (Or.inl ⟨by rfl, ?hy2⟩) (by assumption) ?rest2
            case hy2 => intro w hSw; (try dsimp only at hSw); go_simp; (try with_reducible rfl)
            (try simp only [PT])
            refine ready_at 2 rfl (by kernel_rfl) (fun K hK => ?_)
            go_simp
            refine (HHE.out _ (Below.refl _ _).drew).mono ?_
            rintro ex v1 ⟨p5, n5, c5, o5, rfl, e5, g5, _, _, hb⟩
            obtain rfl : n5 = 0 := by rw [← g5.len, ← wxL_length, e5, HCA.out.1]; rfl
            clear e5 g5
            have HB_v1 : Hid (Below wr.heap.size wr v1) := Lib.hid (below_step (Below.refl _ _).drew hb)
            clear hb hHeld
            (try dsimp only)
            first
              | refine hK.out _ _ ?hS3 (fun hHeld => ?rest3)
              | (go_wp2_with fail; refine hK.out _ _ ?hS3 (fun hHeld => ?rest3))
            case hS3 => exact HSS.out _ HB_v1.out
            clear hK K
            (try simp only [PT])
            refine take_at 3 (v := ?vv4) rfl (by kernel_rfl) (by kernel_rfl) (by kernel_rfl) (fun _ _ _ h => h) (Or.inl ⟨by rfl, ?hy4⟩) (by assumption) ?rest4
            case hy4 => intro w hSw; (try dsimp only at hSw); go_simp; (try with_reducible rfl)
            (try simp only [PT])
            refine take_at 4 (v := ?vv5) rfl (by kernel_rfl) (by kernel_rfl) (by kernel_rfl) (fun _ _ _ h => h) (Or.inl ⟨by rfl, ?hy5⟩) (by assumption) ?rest5
            case hy5 => intro w hSw; (try dsimp only at hSw); go_simp; (try with_reducible rfl)
            (try simp only [PT])
            refine take_at 5 (v := ?vv6) rfl (by kernel_rfl) (by kernel_rfl) (by kernel_rfl) (fun _ _ _ h => h) (Or.inl ⟨by rfl, ?hy6⟩) (by assumption) ?rest6
            case hy6 => intro w hSw; (try dsimp only at hSw); go_simp; (try with_reducible rfl)
            (try simp only [PT])
            refine take_at 6 rfl (by kernel_rfl) (by kernel_rfl) (by kernel_rfl) (fun _ _ _ h => h) (yieldsIf_ld (by rfl) 27 (.tmp 9) rfl (.pointer (some ⟨G9, 0, none⟩)) rfl (.agg (SnC 0 0 0 0 (.slice p1 n1 c1) (.slice p2 n2 c2) (.slice p3 n3 c3))) (fun W hW => HLS.out W hW.2)) (by assumption) ?_
            (try simp only [PT])
            refine take_at 7 (v := ?vv8) rfl (by kernel_rfl) (by kernel_rfl) (by kernel_rfl) (fun _ _ _ h => h) (Or.inl ⟨by rfl, ?hy8⟩) (by assumption) ?rest8
            case hy8 => intro w hSw; (try dsimp only at hSw); go_simp; (try with_reducible rfl)
            (try simp only [PT])
            refine ready_at 8 rfl (by kernel_rfl) (fun K hK => ?_)
            go_simp
            refine (HSN.out _ HB_v1.out).mono ?_
            rintro ex v2 ⟨p6, n6, c6, D6, p7, n7, c7, T7, p8, n8, c8, N6, rfl, e6, e7, g6, g7, _, _, _, _, _, _, hb⟩
            have HD6 := Lib.hid (And.intro e6 (And.intro e7 (And.intro g6 g7)))
            have HL6 : Hid (n6 ≤ 2097152 ∧ n7 ≤ 2097152) := Lib.hid (by have h1 := HFE.out.n; rw [← e6, ← e7, peL_length, ptL_length, g6.gs.len, g7.gs.len] at h1; omega)
            clear e6 e7 g6 g7
            have HB_v2 : Hid (Below wr.heap.size wr v2) := Lib.hid (below_step HB_v1.out hb)
            clear hb hHeld
            (try dsimp only)
            first
              | refine hK.out _ _ ?hS9 (fun hHeld => ?rest9)
              | (go_wp2_with fail; refine hK.out _ _ ?hS9 (fun hHeld => ?rest9))
            case hS9 => exact HSS.out _ HB_v2.out
            clear hK K
            (try simp only [PT])
            refine ready_at 9 rfl (by kernel_rfl) (fun K hK => ?_)
            go_simp
            refine (rthere22_any p1 p2 p3 p6 p7 p8 n1 n2 n3 c1 c2 c3 n6 n7 n8 c6 c7 c8 0 0 0 0 0 0 0 0 D1 D6 T1 T7 s1.L s2.L v2 (HRA.out _ HB_v2.out) ⟨HD6.out.2.2.1.gs, HD6.out.2.2.2.gs, HD6.out.2.2.1.dk, HD6.out.2.2.2.dk, HL6.out.1, HL6.out.2⟩ (by rw [HED.out.1, HED.out.2, HD6.out.1, HD6.out.2.1]; exact HCA.out.2.1) (by rw [HED.out.1, HED.out.2, HD6.out.1, HD6.out.2.1]; exact HCA.out.2.2)).mono ?_
            rintro ex v3 ⟨rfl, hb⟩
            have HB_v3 : Hid (Below wr.heap.size wr v3) := Lib.hid (below_step HB_v2.out hb)
            clear hb hHeld
            (try dsimp only)
            first
              | refine hK.out _ _ ?hS10 (fun hHeld => ?rest10)
              | (go_wp2_with fail; refine hK.out _ _ ?hS10 (fun hHeld => ?rest10))
            case hS10 => exact HSS.out _ HB_v3.out
            clear hK K
            (try simp only [PT])
            refine take_at 10 (v := ?vv11) rfl (by kernel_rfl) (by kernel_rfl) (by kernel_rfl) (fun _ _ _ h => h) (Or.inl ⟨by rfl, ?hy11⟩) (by assumption) ?rest11
            case hy11 => intro w hSw; (try dsimp only at hSw); go_simp; (try with_reducible rfl)
            (try simp only [PT])
            refine take_at 11 (v := ?vv12) rfl (by kernel_rfl) (by kernel_rfl) (by kernel_rfl) (fun _ _ _ h => h) (Or.inl ⟨by rfl, ?hy12⟩) (by assumption) ?rest12
            case hy12 => intro w hSw; (try dsimp only at hSw); go_simp; (try with_reducible rfl)
            (try simp only [PT])
            refine ready_at 12 rfl (by kernel_rfl) (fun K hK => ?_)
            go_simp
            refine (HLV.out _).mono ?_
            rintro ex v4 ⟨rfl, hb⟩
            have HB_v4 : Hid (Below wr.heap.size wr v4) := Lib.hid (below_step HB_v3.out hb)
            clear hb hHeld
            (try dsimp only)
            first
              | refine hK.out _ _ ?hS13 (fun hHeld => ?rest13)
              | (go_wp2_with fail; refine hK.out _ _ ?hS13 (fun hHeld => ?rest13))
            case hS13 => exact HSS.out _ HB_v4.out
            clear hK K
            (try simp only [PT])
            refine take_at 13 (v := ?vv14) rfl (by kernel_rfl) (by kernel_rfl) (by kernel_rfl) (fun _ _ _ h => h) (Or.inl ⟨by rfl, ?hy14⟩) (by assumption) ?rest14
            case hy14 => intro w hSw; (try dsimp only at hSw); go_simp; (try with_reducible rfl)
            (try simp only [PT])
            refine take_at 14 (v := ?vv15) rfl (by kernel_rfl) (by kernel_rfl) (by kernel_rfl) (fun _ _ _ h => h) (Or.inl ⟨by rfl, ?hy15⟩) (by assumption) ?rest15
            case hy15 => intro w hSw; (try dsimp only at hSw); go_simp; (try with_reducible rfl)
            (try simp only [PT])
            refine wpAnyH_done (by kernel_rfl) ?_ _
            have HBE := Lib.hid (below_step HLW.out HB_v4.out)
            clear hHeld
            go_wp2
            go_ret
            exact ⟨rfl, HBE.out⟩
end Go.Proofs.YtpfbfhigelbfcaaGreat

