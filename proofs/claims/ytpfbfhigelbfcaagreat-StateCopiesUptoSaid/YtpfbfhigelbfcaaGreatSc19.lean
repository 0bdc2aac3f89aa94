/- The reference of layer 21: List, Names, Texts; Layer 21: what the laws want of package tags; Layer 21: one entry; a word laid (cut out of TagL); Layer 22, the law: what a state has of a digest and of a name, under what is said of package state. (gen_stara.py); Layer 22: deeds in memory; a state and the reference's beside it, between deeds. (gen_stad.py) -/
import Derived.Test.YtpfbfhigelbfcaaGreatSc1
import Derived.Test.YtpfbfhigelbfcaaGreatSc3
import Derived.Test.YtpfbfhigelbfcaaGreatSc6
import Derived.Test.YtpfbfhigelbfcaaGreatSc7
import Derived.Test.YtpfbfhigelbfcaaGreatSc10
import Derived.Test.YtpfbfhigelbfcaaGreatSc11
import Derived.Test.YtpfbfhigelbfcaaGreatSc16
import Derived.Test.YtpfbfhigelbfcaaGreatSc17
import Derived.Test.YtpfbfhigelbfcaaGreatSc18
set_option linter.unusedSimpArgs false
set_option linter.unusedVariables false
namespace Go.Proofs.YtpfbfhigelbfcaaGreat
open Go.RowKit Go.Lib
theorem namesT_take {L : List Pt} {k : Nat} {x : Pt} (h : L[k]? = some x) : namesT (L.take (k + 1)) = if x.gone = false then namesT (L.take k) ++ [x.dg] else namesT (L.take k) := by
  obtain ⟨h2, h3⟩ := List.getElem?_eq_some_iff.1 h
  unfold namesT
  rw [List.take_succ_eq_append_getElem h2, h3, List.filter_append, List.map_append]
  by_cases h1 : x.gone = false
  · rw [List.filter_cons_of_pos (by simp [h1]), if_pos h1]; rfl
  · rw [List.filter_cons_of_neg (by simpa using h1), if_neg h1]; simp
theorem namesT_le (L : List Pt) (k : Nat) : (namesT (L.take k)).length ≤ k := by
  unfold namesT
  rw [List.length_map]
  have h1 := List.length_filter_le (fun e : Pt => !e.gone) (L.take k)
  rw [List.length_take] at h1
  omega
section
variable (Ix : World → (Nat → Prop) → (Nat → Prop) → Value → List Pt → Prop)
/-- a table that is made -/
def NewGQ (w : World) (N : Nat → Prop) (L : List Pt) (e : Ending) (w' : World) : Prop := ∃ v S F, e = .returned v ∧ Ix w' S F v (newT L) ∧ (∀ b, S b → w.heap.size ≤ b) ∧ (∀ b, F b → N b ∨ w.heap.size ≤ b) ∧ Below w.heap.size w w'
/-- a table that is turned -/
def OpGQ (w : World) (S F : Nat → Prop) (v : Value) (L : List Pt) (e : Ending) (w' : World) : Prop := ∃ S' F', e = .returned (.tuple #[]) ∧ Ix w' S' F' v L ∧ Chg S w w' ∧ (∀ b, S' b → S b ∨ w.heap.size ≤ b) ∧ (∀ b, F' b → F b ∨ w.heap.size ≤ b)
end
def GetGQ (w : World) (F : Nat → Prop) (r : Pt × Bool) (e : Ending) (w' : World) : Prop := ∃ s, e = .returned (.tuple #[tnV r.1 s, .bool r.2]) ∧ Is w' s r.1.ins ∧ (r.1.ins ≠ [] → ∀ b, s.ownBlock = some b → F b ∨ w.heap.size ≤ b) ∧ Below w.heap.size w w'
def RowGQ (w : World) (F : Nat → Prop) (L : List Pt) (e : Ending) (w' : World) : Prop := ∃ p n c Ls N, e = .returned (.slice p n c) ∧ ptL Ls = L ∧ ReT w' N p n Ls ∧ (∀ b, N b → F b ∨ w.heap.size ≤ b) ∧ (p = none → c = 0) ∧ n ≤ c ∧ c ≤ maxLen ∧ Below w.heap.size w w'
def ListGQ (w : World) (F : Nat → Prop) (L : List ByteArray) (e : Ending) (w' : World) : Prop := ∃ p n c, e = .returned (.slice p n c) ∧ Gs encS w' p n L ∧ (n ≠ 0 → ∀ b off, p = some ⟨b, off, none⟩ → F b ∨ w.heap.size ≤ b) ∧ (p = none → c = 0) ∧ n ≤ c ∧ c ≤ maxLen ∧ Below w.heap.size w w'
def NamesGQ (w : World) (L : List (List Int)) (e : Ending) (w' : World) : Prop := ∃ p n c, e = .returned (.slice p n c) ∧ Ds w' p n L ∧ n ≤ maxLen ∧ Below w.heap.size w w'
/-- Ix w S F v L: in w, v is a table that holds L; its own blocks are those of S, what it reads besides lies in those of F -/
structure TagOk (Ix : World → (Nat → Prop) → (Nat → Prop) → Value → List Pt → Prop) : Prop where
  keep : ∀ {w w' : World} {S F : Nat → Prop} {v : Value} {L : List Pt}, Ix w S F v L → (∀ b, S b ∨ F b → w'.heap[b]? = w.heap[b]?) → w.heap.size ≤ w'.heap.size → Ix w' S F v L
  lt : ∀ {w : World} {S F : Nat → Prop} {v : Value} {L : List Pt}, Ix w S F v L → ∀ b, S b ∨ F b → b < w.heap.size
  dis : ∀ {w : World} {S F : Nat → Prop} {v : Value} {L : List Pt}, Ix w S F v L → ∀ b, S b → ¬ F b
  ok : ∀ {w : World} {S F : Nat → Prop} {v : Value} {L : List Pt}, Ix w S F v L → rowT L ∧ ∀ x ∈ L, dok x.dg
  new : ∀ {w : World} {N : Nat → Prop} {p : Option Addr} {n c : Nat} {Ls : List Tx}, ReT w N p n Ls → (p = none → c = 0) → n ≤ c → c ≤ maxLen → n ≤ 1048576 → insLeT (ptL Ls) 2097151 → Calls Tryz.prog 41 #[.slice p n c] w fun e w' => NewGQ Ix w N (ptL Ls) e w'
  apply : ∀ {w : World} {S F : Nat → Prop} {v : Value} {L : List Pt} (x : Wq), Ix w S F v L → dok x.dg → L.length ≤ 1048576 → insLeT L 2097151 → Calls Tryz.prog 46 #[v, x.v] w fun e w' => OpGQ Ix w S F v (applyT L x) e w'
  keepS : ∀ {w : World} {S F : Nat → Prop} {v u : Value} {L : List Pt} {B : List Int}, Ix w S F v L → Is w u B → (B ≠ [] → ∀ b, u.ownBlock = some b → ¬ S b) → B.length ≤ 2097152 → L.length ≤ 1048576 → insLeT L 2097151 → Calls Tryz.prog 50 #[v, u] w fun e w' => OpGQ Ix w S F v (keepTs L B) e w'
  get : ∀ {w : World} {S F : Nat → Prop} {v : Value} {L : List Pt} (s : ByteArray), Ix w S F v L → Calls Tryz.prog 65 #[v, .string s] w fun e w' => GetGQ w F (getTR L s) e w'
  row : ∀ {w : World} {S F : Nat → Prop} {v : Value} {L : List Pt}, Ix w S F v L → L.length ≤ 1048576 → Calls Tryz.prog 55 #[v] w fun e w' => RowGQ w F L e w'
  count : ∀ {w : World} {S F : Nat → Prop} {v : Value} {L : List Pt}, Ix w S F v L → L.length ≤ 1048576 → Calls Tryz.prog 67 #[v] w fun e w' => e = .returned (.int .i64 ((namesT L).length : Int)) ∧ Below w.heap.size w w'
  list : ∀ {w : World} {S F : Nat → Prop} {v : Value} {L : List Pt} (s : ByteArray) (n : Int), Ix w S F v L → L.length ≤ 1048576 → -9223372036854775808 ≤ n → n ≤ 9223372036854775807 → Calls Tryz.prog 70 #[v, .string s, .int .i64 n] w fun e w' => ListGQ w F (listT L s n) e w'
  names : ∀ {w : World} {S F : Nat → Prop} {v : Value} {L : List Pt}, Ix w S F v L → L.length ≤ 1048576 → Calls Tryz.prog 69 #[v] w fun e w' => NamesGQ w (namesT L) e w'
theorem TagOk.later {Ix : World → (Nat → Prop) → (Nat → Prop) → Value → List Pt → Prop} (hT : TagOk Ix) {w w' : World} {S F : Nat → Prop} {v : Value} {L : List Pt} (h : Ix w S F v L) (hb : Below w.heap.size w w') : Ix w' S F v L :=
  hT.keep h (fun b hb2 => hb.block b (hT.lt h b hb2)) hb.size
theorem ReT.none (w : World) : ReT w (fun _ => False) none 0 [] := ⟨Gs.empty _ _ _, fun h => absurd rfl h, (fun x h => by cases h), (fun x h => by cases h), (fun x h => by cases h), fun b h => h.elim⟩
structure Dy where
  k : Int
  w : Wq
  hd : w.dg.length = 32
  p : Option Addr
  c : Nat
  B : List Int
def Dy.s (x : Dy) : Value := .slice x.p x.B.length x.c
def Dy.f (x : Dy) : List Value := .int .i64 x.k :: (mixL x.w.a x.w.dg x.w.t ++ [x.s])
/-! ### the reference's state in a block -/
def stA (q1 q2 q3 : Option Addr) (m1 d1 m2 d2 m3 d3 : Nat) : Array Value := #[.slice q1 m1 d1, .slice q2 m2 d2, .slice q3 m3 d3]
/-- a state of the reference in block G, read out of blocks of N -/
structure RfS (W : World) (G : Nat) (N : Nat → Prop) (y : Ps) (q1 q2 q3 : Option Addr) (m1 d1 m2 d2 m3 d3 : Nat) (o1 : List Ex) (o2 : List Tx) : Prop where
  sg : Sg W G (.slice q1 m1 d1) (.slice q2 m2 d2) (.slice q3 m3 d3)
  e : ReN W N q1 m1 o1
  t : ReT W N q2 m2 o2
  l : Gs encLo W q3 m3 (ldL y.L)
  ln : m3 ≠ 0 → ∀ b off, q3 = some ⟨b, off, none⟩ → N b
  ed : peL o1 = y.D
  td : ptL o2 = y.T
  ng : ¬ N G
section
variable {W V : World} {G : Nat} {N : Nat → Prop} {y : Ps} {q1 q2 q3 : Option Addr} {m1 d1 m2 d2 m3 d3 : Nat} {o1 : List Ex} {o2 : List Tx}
theorem RfS.hold (h : RfS W G N y q1 q2 q3 m1 d1 m2 d2 m3 d3 o1 o2) (hk : ∀ b, b = G ∨ N b → V.heap[b]? = W.heap[b]?) (hs : W.heap.size ≤ V.heap.size) : RfS V G N y q1 q2 q3 m1 d1 m2 d2 m3 d3 o1 o2 :=
  ⟨(hk G (Or.inl rfl)).trans h.sg, h.e.hold (fun b hb => hk b (Or.inr hb)) hs, h.t.hold (fun b hb => hk b (Or.inr hb)) hs, h.l.hold (fun hn b off e => hk b (Or.inr (h.ln hn b off e))), h.ln, h.ed, h.td, h.ng⟩
theorem RfS.lt (h : RfS W G N y q1 q2 q3 m1 d1 m2 d2 m3 d3 o1 o2) : ∀ b, b = G ∨ N b → b < W.heap.size := fun b hb => hb.elim (fun e => by rw [e]; exact h.sg.lt) (h.e.lt b)
theorem RfS.later (h : RfS W G N y q1 q2 q3 m1 d1 m2 d2 m3 d3 o1 o2) (hb : Below W.heap.size W V) : RfS V G N y q1 q2 q3 m1 d1 m2 d2 m3 d3 o1 o2 := h.hold (fun b h1 => hb.block b (h.lt b h1)) hb.size
end
/-- blocks of N, and new ones -/
def nextN (N : Nat → Prop) (W V : World) : Nat → Prop := fun b => N b ∨ (W.heap.size ≤ b ∧ b < V.heap.size)
theorem EnR.re {W V : World} {N : Nat → Prop} {p p' : Option Addr} {n n' : Nat} {L L' : List Ex} {a : Value} {D : List Pe} (h : ReN W N p n L) (hb : Below W.heap.size W V) (hE : EnR V W.heap.size p' n' L' a D) (hp : (p' = p ∧ n' = n) ∨ p' = none) (hL : ∀ x ∈ L', x ∈ L) :
    ∃ q m d o, a = .slice q m d ∧ peL o = D ∧ ReN V (nextN N W V) q m o := by
  obtain ⟨q, m, d, o, h1, h2, h3, h4, h5⟩ := hE
  refine ⟨q, m, d, o, h1, h2, h.next hb h3 (fun hn b off e => ?_) (fun x hx => (h5 x hx).imp (hL x) id)⟩
  rcases h4 with ⟨e1, e2⟩ | h4
  · rcases hp with ⟨e3, e4⟩ | e3
    · exact Or.inl (h.row (by omega) b off (by rw [← e3, ← e1]; exact e))
    · rw [e1, e3] at e; cases e
  · exact Or.inr (h4 b off e)
theorem TnR.re {W V : World} {N : Nat → Prop} {p p' : Option Addr} {n n' : Nat} {L L' : List Tx} {a : Value} {D : List Pt} (h : ReT W N p n L) (hb : Below W.heap.size W V) (hE : TnR V W.heap.size p' n' L' a D) (hp : (p' = p ∧ n' = n) ∨ p' = none) (hL : ∀ x ∈ L', x ∈ L) :
    ∃ q m d o, a = .slice q m d ∧ ptL o = D ∧ ReT V (nextN N W V) q m o := by
  obtain ⟨q, m, d, o, h1, h2, h3, h4, h5⟩ := hE
  refine ⟨q, m, d, o, h1, h2, h.next hb h3 (fun hn b off e => ?_) (fun x hx => (h5 x hx).imp (hL x) id)⟩
  rcases h4 with ⟨e1, e2⟩ | h4
  · rcases hp with ⟨e3, e4⟩ | e3
    · exact Or.inl (h.row (by omega) b off (by rw [← e3, ← e1]; exact e))
    · rw [e1, e3] at e; cases e
  · exact Or.inr (h4 b off e)
theorem LoR.re {W V : World} {N : Nat → Prop} {p p' : Option Addr} {n n' : Nat} {c : Value} {l : List (Int × Int)} (hN : n ≠ 0 → ∀ b off, p = some ⟨b, off, none⟩ → N b) (hE : LoR V W.heap.size p' n' c l) (hp : (p' = p ∧ n' = n) ∨ p' = none) :
    ∃ q m d, c = .slice q m d ∧ Gs encLo V q m (ldL l) ∧ (m ≠ 0 → ∀ b off, q = some ⟨b, off, none⟩ → nextN N W V b) := by
  obtain ⟨q, m, d, h1, h2, h4⟩ := hE
  refine ⟨q, m, d, h1, h2, fun hn b off e => ?_⟩
  rcases h4 with ⟨e1, e2⟩ | h4
  · rcases hp with ⟨e3, e4⟩ | e3
    · exact Or.inl (hN (by omega) b off (by rw [← e3, ← e1]; exact e))
    · rw [e1, e3] at e; cases e
  · refine Or.inr ⟨h4 b off e, ?_⟩
    subst e
    exact h2.block_lt (by omega)
/-- what a function of the reference answers, out of a state that lies so -/
theorem StQ.re {W V : World} {N : Nat → Prop} {p q r p' q' r' : Option Addr} {n m l n' m' l' : Nat} {L1 D : List Ex} {L2 T : List Tx} {y : Ps} {e : Ending} (h1 : ReN W N p n L1) (h2 : ReT W N q m L2) (h3 : l ≠ 0 → ∀ b off, r = some ⟨b, off, none⟩ → N b) (hS : StQ W p' q' r' n' m' l' D T y e V)
    (c1 : (p' = p ∧ n' = n) ∨ p' = none) (c2 : (q' = q ∧ m' = m) ∨ q' = none) (c3 : (r' = r ∧ l' = l) ∨ r' = none) (k1 : ∀ x ∈ D, x ∈ L1) (k2 : ∀ x ∈ T, x ∈ L2) :
    ∃ q1 m1 d1 o1 q2 m2 d2 o2 q3 m3 d3, e = .returned (.agg (stA q1 q2 q3 m1 d1 m2 d2 m3 d3)) ∧ peL o1 = y.D ∧ ReN V (nextN N W V) q1 m1 o1 ∧ ptL o2 = y.T ∧ ReT V (nextN N W V) q2 m2 o2 ∧ Gs encLo V q3 m3 (ldL y.L) ∧ (m3 ≠ 0 → ∀ b off, q3 = some ⟨b, off, none⟩ → nextN N W V b) ∧ Below W.heap.size W V := by
  obtain ⟨a, b, c, he, ha, hb, hc, hbl⟩ := hS
  obtain ⟨q1, m1, d1, o1, rfl, g1, g2⟩ := EnR.re h1 hbl ha c1 k1
  obtain ⟨q2, m2, d2, o2, rfl, g3, g4⟩ := TnR.re h2 hbl hb c2 k2
  obtain ⟨q3, m3, d3, rfl, g5, g6⟩ := LoR.re h3 hc c3
  exact ⟨q1, m1, d1, o1, q2, m2, d2, o2, q3, m3, d3, he, g1, g2, g3, g4, g5, g6, hbl⟩
section
variable {Sx : World → (Nat → Prop) → (Nat → Prop) → Value → Ps → Prop}
/-- the state, and the reference's -/
structure StS (Sx : World → (Nat → Prop) → (Nat → Prop) → Value → Ps → Prop) (w W : World) (v : Value) (S F N : Nat → Prop) (G : Nat) (x y : Ps) (q1 q2 q3 : Option Addr) (m1 d1 m2 d2 m3 d3 : Nat) (o1 : List Ex) (o2 : List Tx) : Prop where
  st : Sx W S F v x
  rf : RfS W G N y q1 q2 q3 m1 d1 m2 d2 m3 d3 o1 o2
  ds : ∀ b, S b → ¬ N b
  dg : ¬ S G ∧ ¬ F G
  sa : ∀ b, S b → w.heap.size ≤ b
  gw : w.heap.size ≤ G
  le : Below w.heap.size w W
variable {w W V : World} {v : Value} {S F N S' F' : Nat → Prop} {G : Nat} {x y x' : Ps} {q1 q2 q3 : Option Addr} {m1 d1 m2 d2 m3 d3 : Nat} {o1 : List Ex} {o2 : List Tx}
theorem StS.later (hT : StOk Sx) (h : StS Sx w W v S F N G x y q1 q2 q3 m1 d1 m2 d2 m3 d3 o1 o2) (hb : Below W.heap.size W V) : StS Sx w V v S F N G x y q1 q2 q3 m1 d1 m2 d2 m3 d3 o1 o2 :=
  ⟨hT.later h.st hb, h.rf.later hb, h.ds, h.dg, h.sa, h.gw, below_step h.le hb⟩
theorem StS.op (hT : StOk Sx) (h : StS Sx w W v S F N G x y q1 q2 q3 m1 d1 m2 d2 m3 d3 o1 o2) (hx : Sx V S' F' v x') (hc : Chg S W V) (hs : ∀ b, S' b → S b ∨ W.heap.size ≤ b) (hf : ∀ b, F' b → F b ∨ W.heap.size ≤ b) : StS Sx w V v S' F' N G x' y q1 q2 q3 m1 d1 m2 d2 m3 d3 o1 o2 := by
  have hl := h.rf.lt
  refine ⟨hx, h.rf.hold (fun b hb => hc.block b (hl b hb) (fun hS => hb.elim (fun e => h.dg.1 (by rw [← e]; exact hS)) (h.ds b hS))) hc.size, fun b hS hN => (hs b hS).elim (fun h1 => h.ds b h1 hN) (fun h1 => absurd (hl b (Or.inr hN)) (Nat.not_lt.2 h1)), ⟨fun e => (hs G e).elim h.dg.1 (fun h1 => absurd (hl G (Or.inl rfl)) (Nat.not_lt.2 h1)), fun e => (hf G e).elim h.dg.2 (fun h1 => absurd (hl G (Or.inl rfl)) (Nat.not_lt.2 h1))⟩,
    fun b hS => (hs b hS).elim (h.sa b) (Nat.le_trans h.le.size), h.gw, h.le.trans (hc.below h.sa h.le.size)⟩
/-- the reference's answer stored over the old one -/
theorem StS.put (hT : StOk Sx) (h : StS Sx w W v S F N G x y q1 q2 q3 m1 d1 m2 d2 m3 d3 o1 o2) (hb : Below W.heap.size W V) {y' : Ps} {p1 p2 p3 : Option Addr} {n1 c1 n2 c2 n3 c3 : Nat} {u1 : List Ex} {u2 : List Tx} (e1 : peL u1 = y'.D) (g1 : ReN V (nextN N W V) p1 n1 u1) (e2 : ptL u2 = y'.T) (g2 : ReT V (nextN N W V) p2 n2 u2) (g3 : Gs encLo V p3 n3 (ldL y'.L)) (g4 : n3 ≠ 0 → ∀ b off, p3 = some ⟨b, off, none⟩ → nextN N W V b) :
    StS Sx w (V.setRow G (stA p1 p2 p3 n1 c1 n2 c2 n3 c3)) v S F (nextN N W V) G x y' p1 p2 p3 n1 c1 n2 c2 n3 c3 u1 u2 := by
  have hG := h.rf.sg.lt
  have hnG : ∀ b, nextN N W V b → b ≠ G := fun b hb e => by
    rcases hb with hb | hb
    · exact h.rf.ng (by rw [← e]; exact hb)
    · omega
  have hk : ∀ b, b ≠ G → (V.setRow G (stA p1 p2 p3 n1 c1 n2 c2 n3 c3)).heap[b]? = V.heap[b]? := fun b hb => setRow_other _ _ _ _ hb
  have hsz : (V.setRow G (stA p1 p2 p3 n1 c1 n2 c2 n3 c3)).heap.size = V.heap.size := setRow_size _ _ _
  refine ⟨hT.keep (hT.later h.st hb) (fun b hb2 => hk b (fun e => hb2.elim (fun e2 => h.dg.1 (by rw [← e]; exact e2)) (fun e2 => h.dg.2 (by rw [← e]; exact e2)))) (by rw [hsz]; exact Nat.le_refl _),
    ⟨Sg.row (h.rf.sg.later hb), g1.hold (fun b hN => hk b (hnG b hN)) (by rw [hsz]; exact Nat.le_refl _), g2.hold (fun b hN => hk b (hnG b hN)) (by rw [hsz]; exact Nat.le_refl _), g3.hold (fun hn b off e => hk b (hnG b (g4 hn b off e))), g4, e1, e2, fun e => hnG G e rfl⟩,
    fun b hS hN => hN.elim (h.ds b hS) (fun h1 => absurd (hT.lt h.st b (Or.inl hS)) (Nat.not_lt.2 h1.1)), h.dg, h.sa, h.gw, below_setRow8 (below_step h.le hb) _ _ h.gw⟩
end
/-- how much there is of a state behind k deeds -/
structure FewK (x : Ps) (a b c k : Nat) : Prop where
  n : x.D.length + x.T.length ≤ a + k
  l : x.L.length ≤ b + k
  i : insLe x.D (c + k)
  j : insLeT x.T (c + k)
theorem FewK.few {x : Ps} {a b c k : Nat} (h : FewK x a b c k) (ha : a + k ≤ 1048576) (hb : b + k ≤ 1048576) (hc : c + k ≤ 2097151) : x.Few :=
  ⟨Nat.le_trans h.n ha, Nat.le_trans h.l hb, fun y hy => Nat.le_trans (h.i y hy) hc, fun y hy => Nat.le_trans (h.j y hy) hc⟩
theorem apply_one (x : Ps) (w : Wq) : (applyS x w).D.length + (applyS x w).T.length ≤ x.D.length + x.T.length + 1 := by
  show (applyE x.D w).length + (applyT x.T w).length ≤ _
  have h1 := applyE_length x.D w
  have h2 := applyT_length x.T w
  by_cases hk : w.k = 3 ∨ w.k = 4
  · have e : applyE x.D w = x.D := by
      unfold applyE
      rw [if_neg (fun h => by omega), if_neg (fun h => by omega)]
    rw [e]
    omega
  · have e : applyT x.T w = x.T := by
      unfold applyT
      rw [if_neg (fun h => by omega), if_neg (fun h => by omega)]
    rw [e]
    omega
theorem FewK.apply {x : Ps} {a b c k : Nat} (h : FewK x a b c k) (w : Wq) : FewK (applyS x w) a b c (k + 1) :=
  ⟨by have h1 := apply_one x w; have h2 := h.n; omega, by have h1 := applyL_length x.L w; have h2 := h.l; show (applyL x.L w).length ≤ _; omega, applyE_ins h.i, applyT_ins h.j⟩
theorem FewK.keep {x : Ps} {a b c k : Nat} (h : FewK x a b c k) (B : List Int) : FewK (keepS x B) a b c (k + 1) :=
  ⟨by have h1 := keepR_length x.D B; have h2 := keepTs_length x.T B; have h3 := h.n; show (keepR x.D B).length + (keepTs x.T B).length ≤ _; omega, by have h1 := List.length_filter_le (fun y : Int × Int => decide (y.1 ∈ B)) x.L; have h2 := h.l; show (x.L.filter fun y => decide (y.1 ∈ B)).length ≤ _; omega,
   fun y hy => Nat.le_succ_of_le (keepR_ins h.i B y hy), fun y hy => Nat.le_succ_of_le (keepTs_ins h.j B y hy)⟩
theorem newL_length (l : List (Int × Int)) : (newL l).length ≤ l.length := by
  have : ∀ (l o : List (Int × Int)), (l.foldl (fun o x => loadP o x.1 x.2 true) o).length ≤ o.length + l.length := by
    intro l
    induction l with
    | nil => intro o; simp
    | cons x l ih =>
      intro o
      have h1 := ih (loadP o x.1 x.2 true)
      have h2 := loadP_length o x.1 x.2 true
      rw [List.foldl_cons, List.length_cons]
      omega
  simpa [newL] using this l []
theorem FewK.new {D : List Pe} {T : List Pt} {L : List (Int × Int)} {c : Nat} (hi : insLe D c) (hj : insLeT T c) : FewK (newS D T L) (D.length + T.length) L.length c 0 :=
  ⟨by have h1 := newE_length D; have h2 := newT_length T; show (newE D).length + (newT T).length ≤ _; omega, newL_length L, newE_ins hi, newT_ins hj⟩
end Go.Proofs.YtpfbfhigelbfcaaGreat

