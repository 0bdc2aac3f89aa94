/- The reference of layer 21: List, Names, Texts; Layer 21: what the laws want of package tags; Layer 21: one entry; a word laid (cut out of TagL); Layer 22, the law: what a state has of a digest and of a name, under what is said of package state. (gen_stara.py); Layer 22: deeds in memory; a state and the reference's beside it, between deeds. (gen_stad.py); Layer 22, the law: what deeds come to, unde -/
import Derived.Test.YtpfbfhigelbfcaaGreatSd17
import Derived.Test.YtpfbfhigelbfcaaGreatSd18
set_option linter.unusedSimpArgs false
set_option linter.unusedVariables false
namespace Go.Proofs.YtpfbfhigelbfcaaGreat
open Go.RowKit Go.Lib
section
variable (Ix : World → (Nat → Prop) → (Nat → Prop) → Value → List Pt → Prop)
/-- a table that is made -/
def NewGQ (w : World) (N : Nat → Prop) (L : List Pt) (e : Ending) (w' : World) : Prop := ∃ v S F, e = .returned v ∧ Ix w' S F v (newT L) ∧ (∀ b, S b → w.heap.size ≤ b) ∧ (∀ b, F b → N b ∨ w.heap.size ≤ b) ∧ Below w.heap.size w w'
/-- a table that is turned -/
def OpGQ (w : World) (S F : Nat → Prop) (v : Value) (L : List Pt) (e : Ending) (w' : World) : Prop := ∃ S' F', e = .returned (.tuple #[]) ∧ Ix w' S' F' v L ∧ Chg S w w' ∧ (∀ b, S' b → S b ∨ w.heap.size ≤ b) ∧ (∀ b, F' b → F b ∨ w.heap.size ≤ b)
end
def RowGQ (w : World) (F : Nat → Prop) (L : List Pt) (e : Ending) (w' : World) : Prop := ∃ p n c Ls N, e = .returned (.slice p n c) ∧ ptL Ls = L ∧ ReT w' N p n Ls ∧ (∀ b, N b → F b ∨ w.heap.size ≤ b) ∧ (p = none → c = 0) ∧ n ≤ c ∧ c ≤ maxLen ∧ Below w.heap.size w w'
/-- Ix w S F v L: in w, v is a table that holds L; its own blocks are those of S, what it reads besides lies in those of F -/
structure TagOk (Ix : World → (Nat → Prop) → (Nat → Prop) → Value → List Pt → Prop) : Prop where
 keep : ∀ {w w' : World} {S F : Nat → Prop} {v : Value} {L : List Pt}, Ix w S F v L → (∀ b, S b ∨ F b → w'.heap[b]? = w.heap[b]?) → w.heap.size ≤ w'.heap.size → Ix w' S F v L
 lt : ∀ {w : World} {S F : Nat → Prop} {v : Value} {L : List Pt}, Ix w S F v L → ∀ b, S b ∨ F b → b < w.heap.size
 dis : ∀ {w : World} {S F : Nat → Prop} {v : Value} {L : List Pt}, Ix w S F v L → ∀ b, S b → ¬ F b
 ok : ∀ {w : World} {S F : Nat → Prop} {v : Value} {L : List Pt}, Ix w S F v L → rowT L ∧ ∀ x ∈ L, dok x.dg
 new : ∀ {w : World} {N : Nat → Prop} {p : Option Addr} {n c : Nat} {Ls : List Tx}, ReT w N p n Ls → (p = none → c = 0) → n ≤ c → c ≤ maxLen → n ≤ 1048576 → insLeT (ptL Ls) 2097151 → Calls Tryz.prog 41 #[.slice p n c] w fun e w' => NewGQ Ix w N (ptL Ls) e w'
 apply : ∀ {w : World} {S F : Nat → Prop} {v : Value} {L : List Pt} (x : Wq), Ix w S F v L → dok x.dg → L.length ≤ 1048576 → insLeT L 2097151 → Calls Tryz.prog 46 #[v, x.v] w fun e w' => OpGQ Ix w S F v (applyT L x) e w'
 keepS : ∀ {w : World} {S F : Nat → Prop} {v u : Value} {L : List Pt} {B : List Int}, Ix w S F v L → Is w u B → (B ≠ [] → ∀ b, u.ownBlock = some b → ¬ S b) → B.length ≤ 2097152 → L.length ≤ 1048576 → insLeT L 2097151 → Calls Tryz.prog 50 #[v, u] w fun e w' => OpGQ Ix w S F v (keepTs L B) e w'
 row : ∀ {w : World} {S F : Nat → Prop} {v : Value} {L : List Pt}, Ix w S F v L → L.length ≤ 1048576 → Calls Tryz.prog 55 #[v] w fun e w' => RowGQ w F L e w'
theorem TagOk.later {Ix : World → (Nat → Prop) → (Nat → Prop) → Value → List Pt → Prop} (hT : TagOk Ix) {w w' : World} {S F : Nat → Prop} {v : Value} {L : List Pt} (h : Ix w S F v L) (hb : Below w.heap.size w w') : Ix w' S F v L :=
 hT.keep h (fun b hb2 => hb.block b (hT.lt h b hb2)) hb.size
theorem ReT.none (w : World) : ReT w (fun _ => False) none 0 [] := ⟨Gs.empty _ _ _, fun h => absurd rfl h, (fun x h => by cases h), (fun x h => by cases h), (fun x h => by cases h), fun b h => h.elim⟩
structure Dy where
 k : Int
 w : Wq
 hd : w.dg.length = 32
 p : Option Addr
 c : Nat
 B : List Int
def Dy.s (x : Dy) : Value := .slice x.p x.B.length x.c
def Dy.f (x : Dy) : List Value := .int .i64 x.k :: (mixL x.w.a x.w.dg x.w.t ++ [x.s])
theorem Dy.wl (x : Dy) : (mixL x.w.a x.w.dg x.w.t).length = 39 := by rw [mixL_length, x.hd]; rfl
def encDy : Ec Dy where
 f := Dy.f
 k := 41
 t := 42
 d := ⟨0, wq0, rfl, none, 0, []⟩
 len := fun x => by unfold Dy.f; rw [List.length_cons, List.length_append, x.wl]; rfl
 one := fun x v hv => by
  unfold Dy.f at hv
  rcases List.mem_cons.1 hv with rfl | hv
  ·rfl
  ·rcases List.mem_append.1 hv with h | h
   ·unfold mixL at h
    rcases List.mem_append.1 h with h | h
    ·simp only [Wq.a, List.mem_cons, List.not_mem_nil, or_false] at h
     rcases h with rfl | rfl <;> rfl
    ·rcases List.mem_append.1 h with h | h
     ·obtain ⟨y, _, rfl⟩ := List.mem_map.1 h; rfl
     ·simp only [Wq.t, List.mem_cons, List.not_mem_nil, or_false] at h
      rcases h with rfl | rfl | rfl | rfl | rfl <;> rfl
   ·rw [List.mem_singleton] at h
    subst h
    rfl
 pos := by decide
theorem Gs.dy {W : World} {p : Option Addr} {n : Nat} {L : List Dy} (h : Gs encDy W p n L) (j : Nat) (hj : j < n) :
 ∃ b off x, p = some ⟨b, off, none⟩ ∧ L[j]? = some x ∧ x ∈ L ∧ W.rangeAt b (off + j * 41) x.f := by
 obtain ⟨b, off, hp, hc⟩ := h.ptr j hj
 have hl := h.len
 have hx : L[j]? = some (L[j]'(by omega)) := List.getElem?_eq_getElem _
 have e : L.getD j encDy.d = L[j]'(by omega) := by rw [List.getD_eq_getElem?_getD, hx]; rfl
 rw [e] at hc
 exact ⟨b, off, _, hp, hx, List.getElem_mem _, fun i v hv => hc i v hv⟩
theorem dy_cells {W : World} {b o : Nat} {x : Dy} (h : W.rangeAt b o x.f) : W.cell? ⟨b, o, none⟩ = some (.int .i64 x.k) ∧ W.cell? ⟨b, o + 40, none⟩ = some x.s := by
 refine ⟨h 0 _ rfl, h 40 _ ?_⟩
 unfold Dy.f
 rw [List.getElem?_cons_succ, List.getElem?_append_right (by rw [x.wl]; omega), x.wl]
 rfl
theorem dy_wrange {W : World} {b o : Nat} {x : Dy} (h : W.rangeAt b o x.f) : W.rangeAt b (o + 1) (mixL x.w.a x.w.dg x.w.t) := fun i v hv => by
 rw [Nat.add_assoc, Nat.add_comm 1 i]
 refine h (i + 1) v ?_
 unfold Dy.f
 rw [List.getElem?_cons_succ, List.getElem?_append_left (List.getElem?_eq_some_iff.1 hv).1]
 exact hv
theorem dy_word {W : World} {b o : Nat} {x : Dy} (h : W.rangeAt b o x.f) : (Instr.loadAt 39 (.pointer (some ⟨b, o + 1, none⟩))).run Tryz.prog W = .ok (.agg (mixC x.w.a x.w.dg x.w.t)) W :=
 run_loadAt_mid W b (o + 1) 39 _ _ (dy_wrange h) Tryz.underlying39 rfl (by rw [x.wl]; exact size39)
/-! ### the reference's state in a block -/
def stA (q1 q2 q3 : Option Addr) (m1 d1 m2 d2 m3 d3 : Nat) : Array Value := #[.slice q1 m1 d1, .slice q2 m2 d2, .slice q3 m3 d3]
theorem sg_load {W : World} {G : Nat} {a b c : Value} (h : Sg W G a b c) : (Instr.loadAt 32 (.pointer (some ⟨G, 0, none⟩))).run Tryz.prog W = .ok (.agg #[a, b, c]) W :=
 run_loadAt_mid W G 0 32 [a, b, c] _ (row_range h) Tryz.underlying32 rfl (by exact sizeSt)
/-- a state of the reference in block G, read out of blocks of N -/
structure RfS (W : World) (G : Nat) (N : Nat → Prop) (y : Ps) (q1 q2 q3 : Option Addr) (m1 d1 m2 d2 m3 d3 : Nat) (o1 : List Ex) (o2 : List Tx) : Prop where
 sg : Sg W G (.slice q1 m1 d1) (.slice q2 m2 d2) (.slice q3 m3 d3)
 e : ReN W N q1 m1 o1
 t : ReT W N q2 m2 o2
 l : Gs encLo W q3 m3 (ldL y.L)
 ln : m3 ≠ 0 → ∀ b off, q3 = some ⟨b, off, none⟩ → N b
 ed : peL o1 = y.D
 td : ptL o2 = y.T
 ng : ¬ N G
section
variable {W V : World} {G : Nat} {N : Nat → Prop} {y : Ps} {q1 q2 q3 : Option Addr} {m1 d1 m2 d2 m3 d3 : Nat} {o1 : List Ex} {o2 : List Tx}
theorem RfS.hold (h : RfS W G N y q1 q2 q3 m1 d1 m2 d2 m3 d3 o1 o2) (hk : ∀ b, b = G ∨ N b → V.heap[b]? = W.heap[b]?) (hs : W.heap.size ≤ V.heap.size) : RfS V G N y q1 q2 q3 m1 d1 m2 d2 m3 d3 o1 o2 :=
 ⟨(hk G (Or.inl rfl)).trans h.sg, h.e.hold (fun b hb => hk b (Or.inr hb)) hs, h.t.hold (fun b hb => hk b (Or.inr hb)) hs, h.l.hold (fun hn b off e => hk b (Or.inr (h.ln hn b off e))), h.ln, h.ed, h.td, h.ng⟩
theorem RfS.lt (h : RfS W G N y q1 q2 q3 m1 d1 m2 d2 m3 d3 o1 o2) : ∀ b, b = G ∨ N b → b < W.heap.size := fun b hb => hb.elim (fun e => by rw [e]; exact h.sg.lt) (h.e.lt b)
theorem RfS.later (h : RfS W G N y q1 q2 q3 m1 d1 m2 d2 m3 d3 o1 o2) (hb : Below W.heap.size W V) : RfS V G N y q1 q2 q3 m1 d1 m2 d2 m3 d3 o1 o2 := h.hold (fun b h1 => hb.block b (h.lt b h1)) hb.size
theorem RfS.lens (h : RfS W G N y q1 q2 q3 m1 d1 m2 d2 m3 d3 o1 o2) : m1 = y.D.length ∧ m2 = y.T.length ∧ m3 = y.L.length :=
 ⟨by rw [← h.ed, peL_length, h.e.gs.len], by rw [← h.td, ptL_length, h.t.gs.len], by rw [← h.l.len, ldL_length]⟩
theorem RfS.insD (h : RfS W G N y q1 q2 q3 m1 d1 m2 d2 m3 d3 o1 o2) {k : Nat} (hi : insLe y.D k) : ∀ x ∈ o1, x.e.ins.length ≤ k := fun x hx => hi x.e (by rw [← h.ed]; exact List.mem_map.2 ⟨x, hx, rfl⟩)
theorem RfS.insT (h : RfS W G N y q1 q2 q3 m1 d1 m2 d2 m3 d3 o1 o2) {k : Nat} (hi : insLeT y.T k) : ∀ x ∈ o2, x.e.ins.length ≤ k := fun x hx => hi x.e (by rw [← h.td]; exact List.mem_map.2 ⟨x, hx, rfl⟩)
end
/-- blocks of N, and new ones -/
def nextN (N : Nat → Prop) (W V : World) : Nat → Prop := fun b => N b ∨ (W.heap.size ≤ b ∧ b < V.heap.size)
theorem EnR.re {W V : World} {N : Nat → Prop} {p p' : Option Addr} {n n' : Nat} {L L' : List Ex} {a : Value} {D : List Pe} (h : ReN W N p n L) (hb : Below W.heap.size W V) (hE : EnR V W.heap.size p' n' L' a D) (hp : (p' = p ∧ n' = n) ∨ p' = none) (hL : ∀ x ∈ L', x ∈ L) :
 ∃ q m d o, a = .slice q m d ∧ peL o = D ∧ ReN V (nextN N W V) q m o := by
 obtain ⟨q, m, d, o, h1, h2, h3, h4, h5⟩ := hE
 refine ⟨q, m, d, o, h1, h2, h.next hb h3 (fun hn b off e => ?_) (fun x hx => (h5 x hx).imp (hL x) id)⟩
 rcases h4 with ⟨e1, e2⟩ | h4
 ·rcases hp with ⟨e3, e4⟩ | e3
  ·exact Or.inl (h.row (by omega) b off (by rw [← e3, ← e1]; exact e))
  ·rw [e1, e3] at e; cases e
 ·exact Or.inr (h4 b off e)
theorem TnR.re {W V : World} {N : Nat → Prop} {p p' : Option Addr} {n n' : Nat} {L L' : List Tx} {a : Value} {D : List Pt} (h : ReT W N p n L) (hb : Below W.heap.size W V) (hE : TnR V W.heap.size p' n' L' a D) (hp : (p' = p ∧ n' = n) ∨ p' = none) (hL : ∀ x ∈ L', x ∈ L) :
 ∃ q m d o, a = .slice q m d ∧ ptL o = D ∧ ReT V (nextN N W V) q m o := by
 obtain ⟨q, m, d, o, h1, h2, h3, h4, h5⟩ := hE
 refine ⟨q, m, d, o, h1, h2, h.next hb h3 (fun hn b off e => ?_) (fun x hx => (h5 x hx).imp (hL x) id)⟩
 rcases h4 with ⟨e1, e2⟩ | h4
 ·rcases hp with ⟨e3, e4⟩ | e3
  ·exact Or.inl (h.row (by omega) b off (by rw [← e3, ← e1]; exact e))
  ·rw [e1, e3] at e; cases e
 ·exact Or.inr (h4 b off e)
theorem LoR.re {W V : World} {N : Nat → Prop} {p p' : Option Addr} {n n' : Nat} {c : Value} {l : List (Int × Int)} (hN : n ≠ 0 → ∀ b off, p = some ⟨b, off, none⟩ → N b) (hE : LoR V W.heap.size p' n' c l) (hp : (p' = p ∧ n' = n) ∨ p' = none) :
 ∃ q m d, c = .slice q m d ∧ Gs encLo V q m (ldL l) ∧ (m ≠ 0 → ∀ b off, q = some ⟨b, off, none⟩ → nextN N W V b) := by
 obtain ⟨q, m, d, h1, h2, h4⟩ := hE
 refine ⟨q, m, d, h1, h2, fun hn b off e => ?_⟩
 rcases h4 with ⟨e1, e2⟩ | h4
 ·rcases hp with ⟨e3, e4⟩ | e3
  ·exact Or.inl (hN (by omega) b off (by rw [← e3, ← e1]; exact e))
  ·rw [e1, e3] at e; cases e
 ·refine Or.inr ⟨h4 b off e, ?_⟩
  subst e
  exact h2.block_lt (by omega)
/-- what a function of the reference answers, out of a state that lies so -/
theorem StQ.re {W V : World} {N : Nat → Prop} {p q r p' q' r' : Option Addr} {n m l n' m' l' : Nat} {L1 D : List Ex} {L2 T : List Tx} {y : Ps} {e : Ending} (h1 : ReN W N p n L1) (h2 : ReT W N q m L2) (h3 : l ≠ 0 → ∀ b off, r = some ⟨b, off, none⟩ → N b) (hS : StQ W p' q' r' n' m' l' D T y e V)
 (c1 : (p' = p ∧ n' = n) ∨ p' = none) (c2 : (q' = q ∧ m' = m) ∨ q' = none) (c3 : (r' = r ∧ l' = l) ∨ r' = none) (k1 : ∀ x ∈ D, x ∈ L1) (k2 : ∀ x ∈ T, x ∈ L2) :
 ∃ q1 m1 d1 o1 q2 m2 d2 o2 q3 m3 d3, e = .returned (.agg (stA q1 q2 q3 m1 d1 m2 d2 m3 d3)) ∧ peL o1 = y.D ∧ ReN V (nextN N W V) q1 m1 o1 ∧ ptL o2 = y.T ∧ ReT V (nextN N W V) q2 m2 o2 ∧ Gs encLo V q3 m3 (ldL y.L) ∧ (m3 ≠ 0 → ∀ b off, q3 = some ⟨b, off, none⟩ → nextN N W V b) ∧ Below W.heap.size W V := by
 obtain ⟨a, b, c, he, ha, hb, hc, hbl⟩ := hS
 obtain ⟨q1, m1, d1, o1, rfl, g1, g2⟩ := EnR.re h1 hbl ha c1 k1
 obtain ⟨q2, m2, d2, o2, rfl, g3, g4⟩ := TnR.re h2 hbl hb c2 k2
 obtain ⟨q3, m3, d3, rfl, g5, g6⟩ := LoR.re h3 hc c3
 exact ⟨q1, m1, d1, o1, q2, m2, d2, o2, q3, m3, d3, he, g1, g2, g3, g4, g5, g6, hbl⟩
section
variable {Sx : World → (Nat → Prop) → (Nat → Prop) → Value → Ps → Prop}
/-- the state, and the reference's -/
structure StS (Sx : World → (Nat → Prop) → (Nat → Prop) → Value → Ps → Prop) (w W : World) (v : Value) (S F N : Nat → Prop) (G : Nat) (x y : Ps) (q1 q2 q3 : Option Addr) (m1 d1 m2 d2 m3 d3 : Nat) (o1 : List Ex) (o2 : List Tx) : Prop where
 st : Sx W S F v x
 rf : RfS W G N y q1 q2 q3 m1 d1 m2 d2 m3 d3 o1 o2
 ds : ∀ b, S b → ¬ N b
 dg : ¬ S G ∧ ¬ F G
 sa : ∀ b, S b → w.heap.size ≤ b
 gw : w.heap.size ≤ G
 le : Below w.heap.size w W
variable {w W V : World} {v : Value} {S F N S' F' : Nat → Prop} {G : Nat} {x y x' : Ps} {q1 q2 q3 : Option Addr} {m1 d1 m2 d2 m3 d3 : Nat} {o1 : List Ex} {o2 : List Tx}
theorem StS.later (hT : StOk Sx) (h : StS Sx w W v S F N G x y q1 q2 q3 m1 d1 m2 d2 m3 d3 o1 o2) (hb : Below W.heap.size W V) : StS Sx w V v S F N G x y q1 q2 q3 m1 d1 m2 d2 m3 d3 o1 o2 :=
 ⟨hT.later h.st hb, h.rf.later hb, h.ds, h.dg, h.sa, h.gw, below_step h.le hb⟩
theorem StS.op (hT : StOk Sx) (h : StS Sx w W v S F N G x y q1 q2 q3 m1 d1 m2 d2 m3 d3 o1 o2) (hx : Sx V S' F' v x') (hc : Chg S W V) (hs : ∀ b, S' b → S b ∨ W.heap.size ≤ b) (hf : ∀ b, F' b → F b ∨ W.heap.size ≤ b) : StS Sx w V v S' F' N G x' y q1 q2 q3 m1 d1 m2 d2 m3 d3 o1 o2 := by
 have hl := h.rf.lt
 refine ⟨hx, h.rf.hold (fun b hb => hc.block b (hl b hb) (fun hS => hb.elim (fun e => h.dg.1 (by rw [← e]; exact hS)) (h.ds b hS))) hc.size, fun b hS hN => (hs b hS).elim (fun h1 => h.ds b h1 hN) (fun h1 => absurd (hl b (Or.inr hN)) (Nat.not_lt.2 h1)), ⟨fun e => (hs G e).elim h.dg.1 (fun h1 => absurd (hl G (Or.inl rfl)) (Nat.not_lt.2 h1)), fun e => (hf G e).elim h.dg.2 (fun h1 => absurd (hl G (Or.inl rfl)) (Nat.not_lt.2 h1))⟩,
  fun b hS => (hs b hS).elim (h.sa b) (Nat.le_trans h.le.size), h.gw, h.le.trans (hc.below h.sa h.le.size)⟩
/-- the reference's answer stored over the old one -/
theorem StS.put (hT : StOk Sx) (h : StS Sx w W v S F N G x y q1 q2 q3 m1 d1 m2 d2 m3 d3 o1 o2) (hb : Below W.heap.size W V) {y' : Ps} {p1 p2 p3 : Option Addr} {n1 c1 n2 c2 n3 c3 : Nat} {u1 : List Ex} {u2 : List Tx} (e1 : peL u1 = y'.D) (g1 : ReN V (nextN N W V) p1 n1 u1) (e2 : ptL u2 = y'.T) (g2 : ReT V (nextN N W V) p2 n2 u2) (g3 : Gs encLo V p3 n3 (ldL y'.L)) (g4 : n3 ≠ 0 → ∀ b off, p3 = some ⟨b, off, none⟩ → nextN N W V b) :
 StS Sx w (V.setRow G (stA p1 p2 p3 n1 c1 n2 c2 n3 c3)) v S F (nextN N W V) G x y' p1 p2 p3 n1 c1 n2 c2 n3 c3 u1 u2 := by
 have hG := h.rf.sg.lt
 have hnG : ∀ b, nextN N W V b → b ≠ G := fun b hb e => by
  rcases hb with hb | hb
  ·exact h.rf.ng (by rw [← e]; exact hb)
  ·omega
 have hk : ∀ b, b ≠ G → (V.setRow G (stA p1 p2 p3 n1 c1 n2 c2 n3 c3)).heap[b]? = V.heap[b]? := fun b hb => setRow_other _ _ _ _ hb
 have hsz : (V.setRow G (stA p1 p2 p3 n1 c1 n2 c2 n3 c3)).heap.size = V.heap.size := setRow_size _ _ _
 refine ⟨hT.keep (hT.later h.st hb) (fun b hb2 => hk b (fun e => hb2.elim (fun e2 => h.dg.1 (by rw [← e]; exact e2)) (fun e2 => h.dg.2 (by rw [← e]; exact e2)))) (by rw [hsz]; exact Nat.le_refl _),
  ⟨Sg.row (h.rf.sg.later hb), g1.hold (fun b hN => hk b (hnG b hN)) (by rw [hsz]; exact Nat.le_refl _), g2.hold (fun b hN => hk b (hnG b hN)) (by rw [hsz]; exact Nat.le_refl _), g3.hold (fun hn b off e => hk b (hnG b (g4 hn b off e))), g4, e1, e2, fun e => hnG G e rfl⟩,
  fun b hS hN => hN.elim (h.ds b hS) (fun h1 => absurd (hT.lt h.st b (Or.inl hS)) (Nat.not_lt.2 h1.1)), h.dg, h.sa, h.gw, below_setRow8 (below_step h.le hb) _ _ h.gw⟩
end
/-- how much there is of a state behind k deeds -/
structure FewK (x : Ps) (a b c k : Nat) : Prop where
 n : x.D.length + x.T.length ≤ a + k
 l : x.L.length ≤ b + k
 i : insLe x.D (c + k)
 j : insLeT x.T (c + k)
theorem FewK.few {x : Ps} {a b c k : Nat} (h : FewK x a b c k) (ha : a + k ≤ 1048576) (hb : b + k ≤ 1048576) (hc : c + k ≤ 2097151) : x.Few :=
 ⟨Nat.le_trans h.n ha, Nat.le_trans h.l hb, fun y hy => Nat.le_trans (h.i y hy) hc, fun y hy => Nat.le_trans (h.j y hy) hc⟩
theorem apply_one (x : Ps) (w : Wq) : (applyS x w).D.length + (applyS x w).T.length ≤ x.D.length + x.T.length + 1 := by
 show (applyE x.D w).length + (applyT x.T w).length ≤ _
 have h1 := applyE_length x.D w
 have h2 := applyT_length x.T w
 by_cases hk : w.k = 3 ∨ w.k = 4
 ·have e : applyE x.D w = x.D := by
   unfold applyE
   rw [if_neg (fun h => by omega), if_neg (fun h => by omega)]
  rw [e]
  omega
 ·have e : applyT x.T w = x.T := by
   unfold applyT
   rw [if_neg (fun h => by omega), if_neg (fun h => by omega)]
  rw [e]
  omega
theorem FewK.apply {x : Ps} {a b c k : Nat} (h : FewK x a b c k) (w : Wq) : FewK (applyS x w) a b c (k + 1) :=
 ⟨by have h1 := apply_one x w; have h2 := h.n; omega, by have h1 := applyL_length x.L w; have h2 := h.l; show (applyL x.L w).length ≤ _; omega, applyE_ins h.i, applyT_ins h.j⟩
theorem FewK.keep {x : Ps} {a b c k : Nat} (h : FewK x a b c k) (B : List Int) : FewK (keepS x B) a b c (k + 1) :=
 ⟨by have h1 := keepR_length x.D B; have h2 := keepTs_length x.T B; have h3 := h.n; show (keepR x.D B).length + (keepTs x.T B).length ≤ _; omega, by have h1 := List.length_filter_le (fun y : Int × Int => decide (y.1 ∈ B)) x.L; have h2 := h.l; show (x.L.filter fun y => decide (y.1 ∈ B)).length ≤ _; omega,
  fun y hy => Nat.le_succ_of_le (keepR_ins h.i B y hy), fun y hy => Nat.le_succ_of_le (keepTs_ins h.j B y hy)⟩
theorem newL_length (l : List (Int × Int)) : (newL l).length ≤ l.length := by
 have : ∀ (l o : List (Int × Int)), (l.foldl (fun o x => loadP o x.1 x.2 true) o).length ≤ o.length + l.length := by
  intro l
  induction l with
  | nil => intro o; simp
  | cons x l ih =>
    intro o
    have h1 := ih (loadP o x.1 x.2 true)
    have h2 := loadP_length o x.1 x.2 true
    rw [List.foldl_cons, List.length_cons]
    omega
 simpa [newL] using this l []
theorem FewK.new {D : List Pe} {T : List Pt} {L : List (Int × Int)} {c : Nat} (hi : insLe D c) (hj : insLeT T c) : FewK (newS D T L) (D.length + T.length) L.length c 0 :=
 ⟨by have h1 := newE_length D; have h2 := newT_length T; show (newE D).length + (newT T).length ≤ _; omega, newL_length L, newE_ins hi, newT_ins hj⟩
theorem wd_lay22 {w W : World} {x : Wq} {b : Nat} (hb : w.heap.size = b) (h : (w.alloc (.cells (mixC wq0.a wq0.dg wq0.t) 39)).setRow b (mixC x.a x.dg x.t) = W) : Wm W b x ∧ Below w.heap.size w W := by
 subst hb
 rw [← h]
 exact ⟨Mx.row (show Wm (w.alloc (.cells (mixC wq0.a wq0.dg wq0.t) 39)) w.heap.size wq0 from heap_alloc_new _ _), below_setRow8 ((Below.refl _ _).alloc (Nat.le_refl _) _) _ _ (Nat.le_refl _)⟩
section
variable {Sx : World → (Nat → Prop) → (Nat → Prop) → Value → Ps → Prop}
/-- the state and the reference's, made of the same snapshot -/
theorem StS.make (hT : StOk Sx) {w W V : World} {v : Value} {S F N : Nat → Prop} {x y' : Ps} (hx : Sx W S F v x) (hs : ∀ b, S b → w.heap.size ≤ b) (hN : ∀ b, N b → b < w.heap.size) (hb0 : Below w.heap.size w W) (hb : Below W.heap.size W V) {p1 p2 p3 : Option Addr} {n1 c1 n2 c2 n3 c3 : Nat} {u1 : List Ex} {u2 : List Tx}
 (e1 : peL u1 = y'.D) (g1 : ReN V (nextN N W V) p1 n1 u1) (e2 : ptL u2 = y'.T) (g2 : ReT V (nextN N W V) p2 n2 u2) (g3 : Gs encLo V p3 n3 (ldL y'.L)) (g4 : n3 ≠ 0 → ∀ b off, p3 = some ⟨b, off, none⟩ → nextN N W V b) :
 StS Sx w ((V.alloc (.cells #[.slice none 0 0, .slice none 0 0, .slice none 0 0] 32)).setRow V.heap.size (stA p1 p2 p3 n1 c1 n2 c2 n3 c3)) v S F (nextN N W V) V.heap.size x y' p1 p2 p3 n1 c1 n2 c2 n3 c3 u1 u2 := by
 obtain ⟨Z, hZ⟩ : ∃ Z, (V.alloc (.cells #[.slice none 0 0, .slice none 0 0, .slice none 0 0] 32)).setRow V.heap.size (stA p1 p2 p3 n1 c1 n2 c2 n3 c3) = Z := ⟨_, rfl⟩
 have hbz : Below V.heap.size V Z := by rw [← hZ]; exact below_setRow8 ((Below.refl _ _).alloc (Nat.le_refl _) _) _ _ (Nat.le_refl _)
 have hsg : Sg Z V.heap.size (.slice p1 n1 c1) (.slice p2 n2 c2) (.slice p3 n3 c3) := by rw [← hZ]; exact Sg.row (show Sg _ _ (.slice none 0 0) (.slice none 0 0) (.slice none 0 0) from heap_alloc_new _ _)
 have hlt : ∀ b, nextN N W V b → b < V.heap.size := fun b h => h.elim (fun h => Nat.lt_of_lt_of_le (hN b h) (Nat.le_trans hb0.size hb.size)) (fun h => h.2)
 rw [hZ]
 exact ⟨hT.later (hT.later hx hb) hbz, ⟨hsg, g1.later hbz, g2.later hbz, g3.hold (fun hn b off e => hbz.block b (hlt b (g4 hn b off e))), g4, e1, e2, fun e => Nat.lt_irrefl _ (hlt _ e)⟩,
  fun b hS h => h.elim (fun h => absurd (hN b h) (Nat.not_lt.2 (hs b hS))) (fun h => absurd (hT.lt hx b (Or.inl hS)) (Nat.not_lt.2 h.1)), ⟨fun e => absurd (hT.lt hx _ (Or.inl e)) (Nat.not_lt.2 hb.size), fun e => absurd (hT.lt hx _ (Or.inr e)) (Nat.not_lt.2 hb.size)⟩, hs, Nat.le_trans hb0.size hb.size, below_step (below_step hb0 hb) hbz⟩
/-- what the calls between deeds want of it -/
theorem StS.few {w W : World} {v : Value} {S F N : Nat → Prop} {G : Nat} {x y : Ps} {q1 q2 q3 : Option Addr} {m1 d1 m2 d2 m3 d3 : Nat} {o1 : List Ex} {o2 : List Tx} (h : StS Sx w W v S F N G x y q1 q2 q3 m1 d1 m2 d2 m3 d3 o1 o2) : m1 = y.D.length ∧ m2 = y.T.length ∧ m3 = y.L.length := h.rf.lens
end
set_option maxRecDepth 100000 in
set_option maxHeartbeats 8000000 in
theorem statedoes_any {Sx : World → (Nat → Prop) → (Nat → Prop) → Value → Ps → Prop} (hT : StOk Sx) (p q r : Option Addr) (n m l c d cr : Nat) (sa sb sc se : Int) (D : List Ex) (T : List Tx) (K : List (Int × Int × Int)) (N : Nat → Prop) (qd : Option Addr) (md dd K1 : Nat) (E : List Dy) (w : World)
 (hD : ReN w N p n D) (hTT : ReT w N q m T) (hK : Gs encLo w r l K) (s1 : SlOk p n c) (s2 : SlOk q m d) (s3 : SlOk r l cr) (hr : SnR D T K) (hE : Gs encDy w qd md E) (hEi : ∀ x ∈ E, Is w x.s x.B ∧ dok x.w.dg ∧ x.B.length ≤ 1048576 ∧ x.w.In ∧ ∀ b ∈ x.B, Rgi b)
 (hn : n + m + md ≤ 1048576) (hl : l + md ≤ 1048576) (hi : insLe (peL D) K1) (hi2 : insLeT (ptL T) K1) (hk1 : K1 + md ≤ 2097151) :
 Calls Tryz.prog 3 #[.agg (SnC sa sb sc se (.slice p n c) (.slice q m d) (.slice r l cr)), .slice qd md dd] w fun e w' => e = .returned (.bool true) ∧ Below w.heap.size w w' := by
 obtain ⟨w0, hw0⟩ : ∃ W, w.alloc (.cells (SnC sa sb sc se (.slice p n c) (.slice q m d) (.slice r l cr)) 27) = W := ⟨_, rfl⟩
 have hb0 : Below w.heap.size w w0 := by rw [← hw0]; exact (Below.refl _ _).alloc (Nat.le_refl _) _
 have hsn : w0.heap[w.heap.size]? = some (.cells (SnC sa sb sc se (.slice p n c) (.slice q m d) (.slice r l cr)) 27 (0, 0)) := by rw [← hw0]; exact heap_alloc_new _ _
 have HB0 := Lib.hid hb0
 have HLSN := Lib.hid fun W (hW : Below w0.heap.size w0 W) => sn_load (obj_later hsn hW)
 have HNW := Lib.hid (hT.new (w := w0) (a := sa) (b := sb) (c' := sc) (e := se) (hD.later hb0) (hTT.later hb0) (hK.later hb0) s1 s2 s3 hr (by omega) (by omega) (fun x hx => Nat.le_trans (hi x hx) (by omega)) (fun x hx => Nat.le_trans (hi2 x hx) (by omega)))
 have HRW := Lib.hid fun W (hW : Below w0.heap.size w0 W) => rnew22_any p q r n m l c d cr sa sb sc se D T K W ((hD.later hb0).later hW).gs ((hTT.later hb0).later hW).gs ((hK.later hb0).later hW) hD.dk hr.r (by omega) (by omega) (by omega)
 have HDT := Lib.hid (And.intro hD hTT)
 have HE := Lib.hid hE
 have HEI := Lib.hid hEi
 have HLV := Lib.hid fun W => lives22_any hT W
 have HT := Lib.hid hT
 have HF0 : Hid (FewK (newS (peL D) (ptL T) (psL K)) (n + m) l K1 0) := Lib.hid (by
  have h1 := FewK.new (L := psL K) hi hi2
  rw [peL_length, ptL_length, hD.gs.len, hTT.gs.len] at h1
  have h2 : (psL K).length = l := by unfold psL; rw [List.length_map, hK.len]
  rw [h2] at h1
  exact h1)
 obtain ⟨SN, hSN⟩ : ∃ s, SnC sa sb sc se (.slice p n c) (.slice q m d) (.slice r l cr) = s := ⟨_, rfl⟩
 rw [hSN] at HLSN HNW HRW hw0 ⊢
 generalize newS (peL D) (ptL T) (psL K) = x0 at *
 clear hD hTT hK s1 s2 s3 hr hi hi2 hE hEi hSN hT hsn
 go_enter Tryz.func3, Tryz.ntmps3
 have HL1 := Lib.hid (HLSN.out _ (Below.refl _ _))
 go_upto_region 2 with (first
  | (refine wpList_ld rfl 27 _ rfl _ rfl _ HL1.out ?_)
  | (go_at_call 8; refine HNW.out.mono ?_; rintro e w3 ⟨v, S, F, rfl, hx3, hs3, hf3, hb3⟩; have HX3 := Lib.hid hx3; have HS3 := Lib.hid hs3; have HB3 := Lib.hid hb3; clear hx3 hs3 hf3 hb3))
 clear hw0
 have HL2 := Lib.hid (HLSN.out _ HB3.out)
 have HRW3 := Lib.hid (HRW.out _ HB3.out)
 go_upto_region 3 with (first
  | (refine wpList_ld rfl 27 _ rfl _ rfl _ HL2.out ?_)
  | (go_at_call 9; refine HRW3.out.mono ?_; rintro e w4 hsq; obtain ⟨p1, n1, c1, u1, p2, n2, c2, u2, p3, n3, c3, he, e1, g1, e2, g2, g3, g4, hb4⟩ := hsq.re (l := 0) (r := none) ((HDT.out.1.later HB0.out).later HB3.out) ((HDT.out.2.later HB0.out).later HB3.out) (fun h => absurd rfl h) (Or.inr rfl) (Or.inr rfl) (Or.inr rfl) (fun x hx => hx) (fun x hx => hx); subst he; have HMK := (Lib.hid (StS.make HT.out (w := w) (c1 := c1) (c2 := c2) (c3 := c3) HX3.out (fun b hb => Nat.le_trans HB0.out.size (HS3.out b hb)) HDT.out.1.lt (below_step HB0.out HB3.out) hb4 e1 g1 e2 g2 g3 g4)); clear hsq e1 g1 e2 g2 g3 g4 hb4; unfold stA)
  | (refine wpList_store_row rfl 32 _ _ rfl w4.heap.size #[.slice p1 n1 c1, .slice p2 n2 c2, .slice p3 n3 c3] rfl rfl 32 _ (heap_alloc_new _ _) sizeSt rfl (by simp [Value.oneCell']) ?_; generalize hw5 : World.setRow _ _ _ = w5))
 unfold stA at HMK
 rw [hw5] at HMK
 obtain ⟨G, hG⟩ : ∃ g, w4.heap.size = g := ⟨_, rfl⟩
 rw [hG] at HMK ⊢
 clear hw5 hG
 go_wp2
 go_loopw [7] (fun j wr => ∃ (k : Nat) (S F N : Nat → Prop) (x : Ps) (q1 q2 q3 : Option Addr) (m1 d1 m2 d2 m3 d3 : Nat) (o1 : List Ex) (o2 : List Tx), k ≤ md ∧ j = .int .i64 (k : Int) ∧ Hid (StS Sx w wr v S F N G x x q1 q2 q3 m1 d1 m2 d2 m3 d3 o1 o2) ∧ Hid (FewK x (n + m) l K1 k)) (fun j _ => md - (intOf j).toNat)
 case atStart => exact ⟨0, _, _, _, x0, _, _, _, _, _, _, _, _, _, _, _, by omega, rfl, HMK, HF0⟩
 case round =>
  obtain ⟨k, S1, F1, N1, x, q1, q2, q3, m1, d1, m2, d2, m3, d3, o1, o2, hkm, rfl, HI, HFK⟩ := hrel
  by_cases hlt : k < md
  ·obtain ⟨b1, off, y, rfl, hy1, hy3, hyr⟩ := (HE.out.later HI.out.le).dy k hlt
   obtain ⟨hyi, hyd, hyb, hyw, hyr2⟩ := HEI.out y hy3
   have HYN := Lib.hid (And.intro hyw hyr2)
   clear hyw hyr2
   have HYD := Lib.hid hyd
   have HYB := Lib.hid hyb
   have HYI := Lib.hid fun W (hW : Below w.heap.size w W) => hyi.later hW
   have HYL := Lib.hid fun (hB : y.B ≠ []) b (hb : y.s.ownBlock = some b) => hyi.lt hB hb
   have HRG : Hid (∀ W, Below w.heap.size w W → W.rangeAt b1 (off + k * 41) y.f) := Lib.hid fun W hW => by
    obtain ⟨b2, off2, z, hp2, hz1, _, hr2⟩ := (HE.out.later hW).dy k hlt
    simp only [Option.some.injEq, Addr.mk.injEq, and_true] at hp2
    obtain ⟨rfl, rfl⟩ := hp2
    rw [hy1] at hz1
    obtain rfl := Option.some.inj hz1
    exact hr2
   have HLW := Lib.hid (dy_word hyr)
   have hki : (k : Int) < (md : Int) := by omega
   have hk0 : (0 : Int) ≤ (k : Int) := by omega
   have HYW := Lib.hid y.hd
   clear hyr hy1 hy3 hyi hyd hyb
   go_upto_region 7 with (first
    | (refine wpList_ld rfl 39 _ rfl _ rfl _ HLW.out ?_)
    | (refine wpList_store_row rfl 39 _ _ rfl wr.heap.size (mixC y.w.a y.w.dg y.w.t) rfl rfl 39 _ (heap_alloc_new _ _) (y.w.sizeOf HYW.out) (Wq.sizes wq0 y.w rfl HYW.out) y.w.one ?_; generalize hw8 : World.setRow _ _ _ = w8))
   obtain ⟨hm8, hb8⟩ := wd_lay22 rfl hw8
   obtain ⟨g8, hg8⟩ : ∃ g, wr.heap.size = g := ⟨_, rfl⟩
   rw [hg8] at hm8
   have HI8 := Lib.hid (HI.out.later HT.out hb8)
   have HM8 := Lib.hid hm8
   have HG8 : Hid (¬ S1 g8 ∧ G ≠ g8) := Lib.hid (by
    rw [← hg8]
    exact ⟨fun e => Nat.lt_irrefl _ (HT.out.lt HI.out.st _ (Or.inl e)), fun e => by have h1 := HI.out.rf.sg.lt; omega⟩)
   obtain ⟨z0, z1⟩ := dy_cells (HRG.out w8 HI8.out.le)
   have hfew : x.Few := HFK.out.few (by omega) (by omega) (by omega)
   have HAP := Lib.hid (HT.out.apply y.w HI8.out.st HYD.out HYN.out.1 hfew)
   have HKP := Lib.hid (HT.out.keepS HI8.out.st (HYI.out w8 HI8.out.le) (fun hB b hb hS => absurd (HYL.out hB b hb) (Nat.not_lt.2 (HI8.out.sa b hS))) (by have := HYB.out; omega) HYN.out.2 hfew)
   have HFW := Lib.hid hfew
   rw [hg8]
   clear hm8 hb8 hw8 hg8 hfew
   go_upto_if 29 with fail
   go_cut [5] (fun sv wx => sv = v ∧ ∃ (S F N : Nat → Prop) (x' : Ps) (q1 q2 q3 : Option Addr) (m1 d1 m2 d2 m3 d3 : Nat) (o1 : List Ex) (o2 : List Tx), Hid (StS Sx w wx v S F N G x' x' q1 q2 q3 m1 d1 m2 d2 m3 d3 o1 o2) ∧ Hid (FewK x' (n + m) l K1 (k + 1)) ∧ Hid (Wm wx g8 y.w))
   case first =>
    by_cases hz : y.k = 0
    ·have ht : (y.k == 0) = true := by simpa using hz
     have HLX := Lib.hid (HM8.out.load HYW.out)
     clear hz z1
     unfold Wq.v at HAP
     go_upto_region 9 with (first
      | (refine wpList_ld rfl 39 _ rfl _ rfl _ HLX.out ?_)
      | (go_at_call 10; refine HAP.out.mono ?_; rintro e w9 ⟨S3, F3, rfl, hx3, hc3, hs3, hf3⟩))
     have HM9 := Lib.hid (HI8.out.op HT.out hx3 hc3 hs3 hf3)
     have HW9 : Hid (Wm w9 g8 y.w) := Lib.hid (Mx.keep HM8.out (hc3.block g8 (Mx.lt HM8.out) HG8.out.1))
     have HLS9 := Lib.hid (sg_load HM9.out.rf.sg)
     have HLX9 := Lib.hid (HW9.out.load HYW.out)
     have HRA := Lib.hid (rapply22_any q1 q2 q3 m1 m2 m3 d1 d2 d3 o1 o2 x.L y.w w9 HM9.out.rf.e.gs HM9.out.rf.t.gs HM9.out.rf.l HM9.out.rf.e.is HM9.out.rf.t.is HM9.out.rf.e.dk HM9.out.rf.t.dk (HM9.out.rf.insD HFW.out.i) (HM9.out.rf.insT HFW.out.j) HYD.out (by have h1 := HM9.out.rf.lens; have h2 := HFW.out.n; omega) (by have h1 := HM9.out.rf.lens; have h2 := HFW.out.n; omega) (by have h1 := HM9.out.rf.lens; have h2 := HFW.out.l; omega))
     rw [HM9.out.rf.ed, HM9.out.rf.td] at HRA
     unfold StV Wq.v at HRA
     clear hx3 hc3 hs3 hf3 z0 ht
     go_wp2_with (first
      | (refine wpList_ld rfl 32 _ rfl _ rfl _ HLS9.out ?_)
      | (refine wpList_ld rfl 39 _ rfl _ rfl _ HLX9.out ?_)
      | (go_at_call 11; refine HRA.out.mono ?_; rintro e w10 hsq; obtain ⟨p1, n1, c1, u1, p2, n2, c2, u2, p3, n3, c3, he, e1, g1, e2, g2, g3, g4, hb4⟩ := hsq.re HM9.out.rf.e HM9.out.rf.t HM9.out.rf.ln (Or.inl ⟨rfl, rfl⟩) (Or.inl ⟨rfl, rfl⟩) (Or.inl ⟨rfl, rfl⟩) (fun x hx => hx) (fun x hx => hx); subst he; have HPU := (Lib.hid (HM9.out.put HT.out (c1 := c1) (c2 := c2) (c3 := c3) hb4 e1 g1 e2 g2 g3 g4)); have HSG := (Lib.hid (HM9.out.rf.sg.later hb4)); have HW10 := (Lib.hid (HW9.out.later hb4)); clear hsq e1 g1 e2 g2 g3 g4 hb4; unfold stA at HPU; unfold stA)
      | (refine wpList_store_row rfl 32 _ _ rfl G #[.slice p1 n1 c1, .slice p2 n2 c2, .slice p3 n3 c3] rfl rfl 32 _ HSG.out sizeSt rfl (by simp [Value.oneCell']) ?_; have HW11 := (Lib.hid (Mx.keep HW10.out (setRow_other w10 G g8 #[.slice p1 n1 c1, .slice p2 n2 c2, .slice p3 n3 c3] (fun e => HG8.out.2 e.symm)))); generalize World.setRow _ _ _ = w11 at *))
     go_meet
     exact ⟨rfl, S3, F3, _, _, p1, p2, p3, n1, c1, n2, c2, n3, c3, u1, u2, HPU, Lib.hid (HFK.out.apply y.w), HW11⟩
    ·have ht : (y.k == 0) = false := by simpa using hz
     clear hz
     unfold Dy.s at HKP z1
     go_upto_region 11 with (go_at_call 12; refine HKP.out.mono ?_; rintro e w9 ⟨S3, F3, rfl, hx3, hc3, hs3, hf3⟩)
     have HM9 := Lib.hid (HI8.out.op HT.out hx3 hc3 hs3 hf3)
     have HW9 : Hid (Wm w9 g8 y.w) := Lib.hid (Mx.keep HM8.out (hc3.block g8 (Mx.lt HM8.out) HG8.out.1))
     have HLS9 := Lib.hid fun W (hW : Below w9.heap.size w9 W) => sg_load (HM9.out.rf.sg.later hW)
     have HSS : Hid (∀ W, Below w9.heap.size w9 W → (fun W => W.cell? ⟨b1, off + k * 41 + 40, none⟩ = some y.s ∧ Below w9.heap.size w9 W) W) := Lib.hid fun W hW => ⟨(dy_cells (HRG.out W (below_step HM9.out.le hW))).2, hW⟩
     have HRA := Lib.hid fun W (hW : Below w9.heap.size w9 W) => rkeep22_any q1 q2 q3 y.p m1 m2 m3 d1 d2 d3 y.B.length y.c o1 o2 x.L y.B W (HM9.out.rf.later hW).e.gs (HM9.out.rf.later hW).t.gs (HM9.out.rf.later hW).l (HM9.out.rf.later hW).e.is (HM9.out.rf.later hW).t.is HM9.out.rf.e.dk HM9.out.rf.t.dk (fun z hz => Nat.le_succ_of_le (HM9.out.rf.insD HFW.out.i z hz)) (fun z hz => Nat.le_succ_of_le (HM9.out.rf.insT HFW.out.j z hz)) (by
      obtain ⟨p9, c9, e9, g9, _⟩ := HYI.out W (below_step HM9.out.le hW)
      unfold Dy.s at e9
      simp only [Value.slice.injEq] at e9
      obtain ⟨rfl, -, rfl⟩ := e9
      exact g9) (by have h1 := HM9.out.rf.lens; have h2 := HFW.out.n; omega) (by have h1 := HM9.out.rf.lens; have h2 := HFW.out.n; omega) (by have h1 := HM9.out.rf.lens; have h2 := HFW.out.l; omega) (by have := HYB.out; omega)
     rw [HM9.out.rf.ed, HM9.out.rf.td] at HRA
     unfold StV at HRA
     unfold Dy.s at HSS
     clear hx3 hc3 hs3 hf3 z0 z1 ht
     refine wp_region_x (fun W => W.cell? ⟨b1, off + k * 41 + 40, none⟩ = some (.slice y.p y.B.length y.c) ∧ Below w9.heap.size w9 W) 7 (by kernel_rfl) ?_
     have hHeld : (fun W => W.cell? ⟨b1, off + k * 41 + 40, none⟩ = some (.slice y.p y.B.length y.c) ∧ Below w9.heap.size w9 W) _ := (HSS.out _ (Below.refl _ _).drew)
     refine tkxL 0 rfl (yieldsIf_ld (by rfl) 32 (.tmp 6) rfl (.pointer (some ⟨G, 0, none⟩)) rfl (.agg #[.slice q1 m1 d1, .slice q2 m2 d2, .slice q3 m3 d3]) (fun W hW => HLS9.out W hW.2)) ?_
     (try simp only [PT])
     refine tkx 1 rfl ?_;(try simp only [PT]);refine tkx 2 rfl ?_;(try simp only [PT]);refine tkx 3 rfl ?_;(try simp only [PT]);refine tkx 4 rfl ?_;(try simp only [PT]);refine tkx 5 rfl ?_;(try simp only [PT])
     refine readyx 6 rfl (by kernel_rfl) (fun K hK => ?_)
     go_simp
     refine (HRA.out _ (Below.refl _ _).drew).mono ?_
     rintro e w10 hsq
     obtain ⟨p1, n1, c1, u1, p2, n2, c2, u2, p3, n3, c3, he, e1, g1, e2, g2, g3, g4, hb4⟩ := hsq.re (HM9.out.rf.later (Below.refl _ _).drew).e (HM9.out.rf.later (Below.refl _ _).drew).t HM9.out.rf.ln (Or.inr rfl) (Or.inr rfl) (Or.inr rfl) (fun x hx => absurd hx List.not_mem_nil) (fun x hx => absurd hx List.not_mem_nil)
     subst he
     have HPU := Lib.hid ((HM9.out.later HT.out (Below.refl _ _).drew).put HT.out (c1 := c1) (c2 := c2) (c3 := c3) hb4 e1 g1 e2 g2 g3 g4)
     have HBB := Lib.hid (below_step (Below.refl _ _).drew hb4)
     have HSG := Lib.hid (HM9.out.rf.sg.later HBB.out)
     have HW10 := Lib.hid (HW9.out.later HBB.out)
     clear hsq e1 g1 e2 g2 g3 g4 hb4
     unfold stA at HPU
     unfold stA
     (try dsimp only)
     first
      | refine hK.out _ _ ?hS7 ?rest7
      | (go_wp2_with fail; refine hK.out _ _ ?hS7 ?rest7)
     case hS7 => exact HSS.out _ HBB.out
     clear hK K hHeld
     have hHeld : (fun W => W.cell? ⟨b1, off + k * 41 + 40, none⟩ = some (.slice y.p y.B.length y.c) ∧ Below w9.heap.size w9 W) _ := HSS.out _ HBB.out
     (try simp only [PT])
     refine lastx 7 rfl (by kernel_rfl) (by kernel_rfl) (fun K hK => ?_)
     rw [if_pos (by rfl)]
     refine wp_store_row 32 _ _ rfl G #[.slice p1 n1 c1, .slice p2 n2 c2, .slice p3 n3 c3] rfl rfl 32 _ HSG.out sizeSt rfl (by simp [Value.oneCell']) ?_
     have HW11 := (Lib.hid (Mx.keep HW10.out (setRow_other w10 G g8 #[.slice p1 n1 c1, .slice p2 n2 c2, .slice p3 n3 c3] (fun e => HG8.out.2 e.symm))))
     generalize World.setRow _ _ _ = w11 at *
     first
      | refine hK.out _ _ ?_
      | (go_wp2_with fail; refine hK.out _ _ ?_)
     clear hK K hHeld
     go_wp2
     go_meet
     exact ⟨rfl, S3, F3, _, _, p1, p2, p3, n1, c1, n2, c2, n3, c3, u1, u2, HPU, Lib.hid (HFK.out.keep y.B), HW11⟩
   case rest =>
    clear HI HI8 HM8 HAP HKP z0 z1 HFW HFK
    obtain ⟨rfl, S2, F2, N2, x', q1, q2, q3, m1, d1, m2, d2, m3, d3, o1, o2, HI, HFK, HW8⟩ := hcut
    have HFW : Hid (x'.Few) := Lib.hid (HFK.out.few (by omega) (by omega) (by omega))
    have HLEN := Lib.hid HI.out.rf.lens
    have HLS := Lib.hid fun W (hW : Below wc.heap.size wc W) => sg_load (HI.out.rf.sg.later hW)
    have HSN := Lib.hid fun W (hW : Below wc.heap.size wc W) => HT.out.snapshot (HT.out.later HI.out.st hW) HFW.out
    have HIS : Hid (∀ W, Below wc.heap.size wc W → ∀ (p1 : Option Addr) (n1 c1 : Nat) (D1 : List Ex) (p2 : Option Addr) (n2 c2 : Nat) (T1 : List Tx) (p3 : Option Addr) (n3 c3 : Nat) (N1 : Nat → Prop), peL D1 = x'.D → ptL T1 = x'.T → ReN W N1 p1 n1 D1 → ReT W N1 p2 n2 T1 → Gs encLo W p3 n3 (loadsP x') →
     Calls Tryz.prog 14 #[.agg (SnC 0 0 0 0 (.slice p1 n1 c1) (.slice p2 n2 c2) (.slice p3 n3 c3)), .agg #[.slice q1 m1 d1, .slice q2 m2 d2, .slice q3 m3 d3]] W fun e w' => e = .returned (.bool true) ∧ Below W.heap.size W w') := Lib.hid fun W hW p1 n1 c1 D1 p2 n2 c2 T1 p3 n3 c3 N1 e1 e2 g1 g2 g3 => by
     have hrf := HI.out.rf.later hW
     exact ris22_any p1 p2 p3 q1 q2 q3 n1 n2 n3 c1 c2 c3 m1 m2 m3 d1 d2 d3 0 0 0 0 D1 o1 T1 o2 (loadsP x') x'.L W g1.gs g2.gs g3 hrf.e.gs hrf.t.gs hrf.l (by rw [e1, hrf.ed]) (by rw [e2, hrf.td]) (by rw [hrf.ed, hrf.td]) g1.is hrf.e.is g2.is hrf.t.is g1.dk g2.dk
      (fun z hz => Nat.le_succ_of_le (HFW.out.i z.e (by rw [← e1]; exact List.mem_map.2 ⟨z, hz, rfl⟩))) (fun z hz => Nat.le_succ_of_le (hrf.insD HFW.out.i z hz)) (fun z hz => Nat.le_succ_of_le (HFW.out.j z.e (by rw [← e2]; exact List.mem_map.2 ⟨z, hz, rfl⟩))) (fun z hz => Nat.le_succ_of_le (hrf.insT HFW.out.j z hz)) (by have h1 := HLEN.out; have h2 := HFW.out.n; omega) (by have h1 := HLEN.out; have h2 := HFW.out.l; omega)
    have HSS : Hid (∀ W, Below wc.heap.size wc W → (fun W => W.cell? ⟨g8, 36, none⟩ = some (.int .i64 y.w.seg) ∧ Below wc.heap.size wc W) W) := Lib.hid fun W hW => ⟨Mx.last (HW8.out.later hW) HYW.out 2 _ rfl, hW⟩
    have HHE := Lib.hid fun W (hW : Below wc.heap.size wc W) => HT.out.here y.w.seg (HT.out.later HI.out.st hW) HFW.out
    have HRH : Hid (∀ W, Below wc.heap.size wc W → Calls Tryz.prog 18 #[.agg #[.slice q1 m1 d1, .slice q2 m2 d2, .slice q3 m3 d3], .int .i64 y.w.seg] W fun e w' => ∃ u o, e = .returned u ∧ wxL o = hereP x' y.w.seg ∧ Gw encWd w' W.heap.size u o ∧ Below W.heap.size W w') := Lib.hid fun W hW => by
     have hrf := HI.out.rf.later hW
     have h1 := rhere22_any q1 q2 q3 m1 m2 m3 d1 d2 d3 o1 o2 y.w.seg W hrf.e.gs hrf.t.gs hrf.e.is hrf.t.is (fun z hz => Nat.le_succ_of_le (hrf.insD HFW.out.i z hz)) (fun z hz => Nat.le_succ_of_le (hrf.insT HFW.out.j z hz)) (by have h1 := HLEN.out; have h2 := HFW.out.n; omega)
     unfold HereQ at h1
     rw [← hereP_is _ _ x'.L, hrf.ed, hrf.td] at h1
     exact h1
    have HDK : Hid (∀ (o : List Wx), wxL o = hereP x' y.w.seg → ∀ z ∈ o, dok z.1.dg) := Lib.hid fun o ho z hz => by
     have h1 : z.1 ∈ hereP x' y.w.seg := by rw [← ho]; exact List.mem_map.2 ⟨z, hz, rfl⟩
     obtain ⟨_, h2, h3, _⟩ := HT.out.ok HI.out.st
     rcases mem_hereP.1 h1 with ⟨e, he, _, hw⟩ | ⟨t, ht, _, hw⟩
     ·rw [← hw]; exact h2 e he
     ·rw [← hw]; exact h3 t ht
    have HHL : Hid ((hereP x' y.w.seg).length ≤ 1048576) := Lib.hid (Nat.le_trans (hereP_length _ _) HFW.out.n)
    have HLO := Lib.hid fun W (hW : Below wc.heap.size wc W) => HT.out.loads (HT.out.later HI.out.st hW) HFW.out
    have HRL : Hid (∀ W, Below wc.heap.size wc W → Calls Tryz.prog 21 #[.agg #[.slice q1 m1 d1, .slice q2 m2 d2, .slice q3 m3 d3]] W fun e w' => ∃ u, e = .returned u ∧ Gw encLo w' W.heap.size u (loadsP x') ∧ Below W.heap.size W w') := Lib.hid fun W hW => by
     have hrf := HI.out.rf.later hW
     have h1 := rloads22_any q1 q2 q3 m1 m2 m3 d1 d2 d3 o1 o2 x'.L W hrf.e.gs hrf.t.gs hrf.l hrf.e.is hrf.t.is (fun z hz => Nat.le_succ_of_le (hrf.insD HFW.out.i z hz)) (fun z hz => Nat.le_succ_of_le (hrf.insT HFW.out.j z hz)) (by have h1 := HLEN.out; have h2 := HFW.out.n; omega) (by have h1 := HLEN.out; have h2 := HFW.out.l; omega)
     unfold LoadsQ at h1
     rw [hrf.ed, hrf.td] at h1
     exact h1
    have HLL : Hid ((loadsP x').length ≤ 1048576) := Lib.hid (by unfold loadsP; rw [List.length_map]; exact HFW.out.l)
    obtain ⟨sg, hsg⟩ : ∃ z, y.w.seg = z := ⟨_, rfl⟩
    rw [hsg] at HSS HHE HRH HDK HHL
    obtain ⟨hp, hhp⟩ : ∃ z, hereP x' sg = z := ⟨_, rfl⟩
    rw [hhp] at HHE HRH HDK HHL
    obtain ⟨lp, hlp⟩ : ∃ z, loadsP x' = z := ⟨_, rfl⟩
    rw [hlp] at HIS HLO HRL HLL
    have HSNP := Lib.hid hlp
    clear hsg hhp hlp
    go_upto_region 12 with fail
    refine wp_region_held_drew (S := (fun W => W.cell? ⟨g8, 36, none⟩ = some (.int .i64 sg) ∧ Below wc.heap.size wc W)) (by kernel_rfl) (HSS.out _ (Below.refl _ _).drew) (fun hHeld => ?_)
    refine tk 0 rfl ?_;(try simp only [PT])
    refine tkL 2 rfl (yieldsIf_ld (by rfl) 32 (.tmp 6) rfl (.pointer (some ⟨G, 0, none⟩)) rfl (.agg #[.slice q1 m1 d1, .slice q2 m2 d2, .slice q3 m3 d3]) (fun W hW => HLS.out W hW.2)) ?_
    (try simp only [PT])
    refine ready_at 1 rfl (by kernel_rfl) (fun K hK => ?_)
    go_simp
    refine (HSN.out _ (Below.refl _ _).drew).mono ?_
    rintro ex v1 ⟨p1, n1, c1, D1, p2, n2, c2, T1, p3, n3, c3, N1, rfl, e1, e2, g1, g2, g3, _, _, _, _, _, hb⟩
    rw [HSNP.out] at g3
    have HIS1 := Lib.hid (HIS.out _ (below_step (Below.refl _ _).drew hb) p1 n1 c1 D1 p2 n2 c2 T1 p3 n3 c3 N1 e1 e2 g1 g2 g3)
    clear e1 e2 g1 g2 g3
    have HB_v1 : Hid (Below wc.heap.size wc v1) := Lib.hid (below_step (Below.refl _ _).drew hb)
    clear hb hHeld
    (try dsimp only)
    first
     | refine hK.out _ _ ?hS11 (fun hHeld => ?rest11)
     | (go_wp2_with fail; refine hK.out _ _ ?hS11 (fun hHeld => ?rest11))
    case hS11 => exact HSS.out _ HB_v1.out
    clear hK K
    (try simp only [PT])
    refine ready_at 3 rfl (by kernel_rfl) (fun K hK => ?_)
    go_simp
    refine (HIS1.out).mono ?_
    rintro ex v2 ⟨rfl, hb⟩
    have HB_v2 : Hid (Below wc.heap.size wc v2) := Lib.hid (below_step HB_v1.out hb)
    clear hb hHeld
    (try dsimp only)
    first
     | refine hK.out _ _ ?hS12 (fun hHeld => ?rest12)
     | (go_wp2_with fail; refine hK.out _ _ ?hS12 (fun hHeld => ?rest12))
    case hS12 => exact HSS.out _ HB_v2.out
    clear hK K
    (try simp only [PT])
    refine tk 4 rfl ?_;(try simp only [PT]);refine tk 5 rfl ?_;(try simp only [PT]);refine tk 6 rfl ?_;(try simp only [PT]);refine tk 7 rfl ?_;(try simp only [PT]);refine tk 8 rfl ?_;(try simp only [PT]);refine tk 9 rfl ?_;(try simp only [PT])
    refine tkL 11 rfl (yieldsIf_ld (by rfl) 32 (.tmp 6) rfl (.pointer (some ⟨G, 0, none⟩)) rfl (.agg #[.slice q1 m1 d1, .slice q2 m2 d2, .slice q3 m3 d3]) (fun W hW => HLS.out W hW.2)) ?_
    (try simp only [PT])
    refine tk 12 rfl ?_;(try simp only [PT]);refine tk 13 rfl ?_;(try simp only [PT]);refine tk 14 rfl ?_;(try simp only [PT])
    refine ready_at 10 rfl (by kernel_rfl) (fun K hK => ?_)
    go_simp
    refine (HHE.out _ HB_v2.out).mono ?_
    rintro ex v3 ⟨p4, n4, c4, o4, rfl, e4, g4, _, _, hb⟩
    have HG4 := Lib.hid g4
    have HE4 := Lib.hid e4
    have HN4 : Hid (n4 = hp.length) := Lib.hid (by rw [← e4, wxL_length, g4.len])
    clear g4 e4
    have HB_v3 : Hid (Below wc.heap.size wc v3) := Lib.hid (below_step HB_v2.out hb)
    clear hb hHeld
    (try dsimp only)
    first
     | refine hK.out _ _ ?hS23 (fun hHeld => ?rest23)
     | (go_wp2_with fail; refine hK.out _ _ ?hS23 (fun hHeld => ?rest23))
    case hS23 => exact HSS.out _ HB_v3.out
    clear hK K
    (try simp only [PT])
    refine ready_at 15 rfl (by kernel_rfl) (fun K hK => ?_)
    go_simp
    refine (HRH.out _ HB_v3.out).mono ?_
    rintro ex v4 ⟨u5, o5, rfl, e5, g5, hb⟩
    obtain ⟨p5, c5, hv5, _⟩ := g5.open
    have hl5 : o5.length = n4 := by rw [HN4.out, ← e5, wxL_length]
    rw [hl5] at hv5
    subst hv5
    have HG5 := Lib.hid g5.gs
    have HG45 := Lib.hid (HG4.out.later hb)
    have HE5 := Lib.hid e5
    clear g5 e5 hl5
    have HB_v4 : Hid (Below wc.heap.size wc v4) := Lib.hid (below_step HB_v3.out hb)
    clear hb hHeld
    (try dsimp only)
    first
     | refine hK.out _ _ ?hS24 (fun hHeld => ?rest24)
     | (go_wp2_with fail; refine hK.out _ _ ?hS24 (fun hHeld => ?rest24))
    case hS24 => exact HSS.out _ HB_v4.out
    clear hK K
    (try simp only [PT])
    refine ready_at 16 rfl (by kernel_rfl) (fun K hK => ?_)
    go_simp
    refine (rwordsE_any _ _ _ _ _ _ _ _ HG45.out HG5.out (by rw [HE4.out, HE5.out]) (HDK.out _ HE4.out) (by have h1 := HN4.out; have h2 := HHL.out; omega)).mono ?_
    rintro ex v5 ⟨rfl, hb⟩
    have HB_v5 : Hid (Below wc.heap.size wc v5) := Lib.hid (below_step HB_v4.out hb)
    clear hb hHeld
    (try dsimp only)
    first
     | refine hK.out _ _ ?hS25 (fun hHeld => ?rest25)
     | (go_wp2_with fail; refine hK.out _ _ ?hS25 (fun hHeld => ?rest25))
    case hS25 => exact HSS.out _ HB_v5.out
    clear hK K
    (try simp only [PT])
    refine tk 17 rfl ?_;(try simp only [PT]);refine tk 18 rfl ?_;(try simp only [PT]);refine tk 19 rfl ?_;(try simp only [PT]);refine tk 20 rfl ?_;(try simp only [PT])
    refine tkL 22 rfl (yieldsIf_ld (by rfl) 32 (.tmp 6) rfl (.pointer (some ⟨G, 0, none⟩)) rfl (.agg #[.slice q1 m1 d1, .slice q2 m2 d2, .slice q3 m3 d3]) (fun W hW => HLS.out W hW.2)) ?_
    (try simp only [PT])
    refine ready_at 21 rfl (by kernel_rfl) (fun K hK => ?_)
    go_simp
    refine (HLO.out _ HB_v5.out).mono ?_
    rintro ex v6 ⟨p6, n6, c6, rfl, g6, _, _, hb⟩
    have HG6 := Lib.hid g6
    clear g6
    have HB_v6 : Hid (Below wc.heap.size wc v6) := Lib.hid (below_step HB_v5.out hb)
    clear hb hHeld
    (try dsimp only)
    first
     | refine hK.out _ _ ?hS31 (fun hHeld => ?rest31)
     | (go_wp2_with fail; refine hK.out _ _ ?hS31 (fun hHeld => ?rest31))
    case hS31 => exact HSS.out _ HB_v6.out
    clear hK K
    (try simp only [PT])
    refine ready_at 23 rfl (by kernel_rfl) (fun K hK => ?_)
    go_simp
    refine (HRL.out _ HB_v6.out).mono ?_
    rintro ex v7 ⟨u7, rfl, g7, hb⟩
    obtain ⟨p7, c7, hv7, _⟩ := g7.open
    obtain ⟨n7, hn7⟩ : ∃ z, lp.length = z := ⟨_, rfl⟩
    rw [hn7] at hv7
    subst hv7
    have HG7 := Lib.hid g7.gs
    have HG67 := Lib.hid (HG6.out.later hb)
    clear g7 hn7
    have HB_v7 : Hid (Below wc.heap.size wc v7) := Lib.hid (below_step HB_v6.out hb)
    clear hb hHeld
    (try dsimp only)
    first
     | refine hK.out _ _ ?hS32 (fun hHeld => ?rest32)
     | (go_wp2_with fail; refine hK.out _ _ ?hS32 (fun hHeld => ?rest32))
    case hS32 => exact HSS.out _ HB_v7.out
    clear hK K
    (try simp only [PT])
    refine ready_at 24 rfl (by kernel_rfl) (fun K hK => ?_)
    go_simp
    refine (rsloads22_any _ _ _ _ _ _ _ _ HG67.out HG7.out (by rw [← HG67.out.len]; have := HLL.out; omega)).mono ?_
    rintro ex v8 ⟨rfl, hb⟩
    have HB_v8 : Hid (Below wc.heap.size wc v8) := Lib.hid (below_step HB_v7.out hb)
    clear hb hHeld
    (try dsimp only)
    first
     | refine hK.out _ _ ?hS33 (fun hHeld => ?rest33)
     | (go_wp2_with fail; refine hK.out _ _ ?hS33 (fun hHeld => ?rest33))
    case hS33 => exact HSS.out _ HB_v8.out
    clear hK K
    (try simp only [PT])
    refine tk 25 rfl ?_;(try simp only [PT]);refine tk 26 rfl ?_;(try simp only [PT])
    refine wpAnyH_done (by kernel_rfl) ?_ _
    have HIV := Lib.hid (HI.out.later HT.out HB_v8.out)
    clear hHeld
    go_wp2
    exact ⟨⟨k + 1, S2, F2, N2, x', q1, q2, q3, m1, d1, m2, d2, m3, d3, o1, o2, by omega, by go_num, HIV, HFK⟩, by simp [intOf] <;> omega⟩
  ·obtain rfl : k = md := by omega
   obtain ⟨x', hx'⟩ : ∃ z, x = z := ⟨_, rfl⟩
   subst hx'
   have HFW : Hid (x.Few) := Lib.hid (HFK.out.few (by omega) (by omega) (by omega))
   have HLEN := Lib.hid HI.out.rf.lens
   have HLS := Lib.hid fun W (hW : Below wr.heap.size wr W) => sg_load (HI.out.rf.sg.later hW)
   have HSN := Lib.hid fun W (hW : Below wr.heap.size wr W) => HT.out.snapshot (HT.out.later HI.out.st hW) HFW.out
   have HIS : Hid (∀ W, Below wr.heap.size wr W → ∀ (p1 : Option Addr) (n1 c1 : Nat) (D1 : List Ex) (p2 : Option Addr) (n2 c2 : Nat) (T1 : List Tx) (p3 : Option Addr) (n3 c3 : Nat) (N1 : Nat → Prop), peL D1 = x.D → ptL T1 = x.T → ReN W N1 p1 n1 D1 → ReT W N1 p2 n2 T1 → Gs encLo W p3 n3 (loadsP x) →
    Calls Tryz.prog 14 #[.agg (SnC 0 0 0 0 (.slice p1 n1 c1) (.slice p2 n2 c2) (.slice p3 n3 c3)), .agg #[.slice q1 m1 d1, .slice q2 m2 d2, .slice q3 m3 d3]] W fun e w' => e = .returned (.bool true) ∧ Below W.heap.size W w') := Lib.hid fun W hW p1 n1 c1 D1 p2 n2 c2 T1 p3 n3 c3 N1 e1 e2 g1 g2 g3 => by
    have hrf := HI.out.rf.later hW
    exact ris22_any p1 p2 p3 q1 q2 q3 n1 n2 n3 c1 c2 c3 m1 m2 m3 d1 d2 d3 0 0 0 0 D1 o1 T1 o2 (loadsP x) x.L W g1.gs g2.gs g3 hrf.e.gs hrf.t.gs hrf.l (by rw [e1, hrf.ed]) (by rw [e2, hrf.td]) (by rw [hrf.ed, hrf.td]) g1.is hrf.e.is g2.is hrf.t.is g1.dk g2.dk
     (fun z hz => Nat.le_succ_of_le (HFW.out.i z.e (by rw [← e1]; exact List.mem_map.2 ⟨z, hz, rfl⟩))) (fun z hz => Nat.le_succ_of_le (hrf.insD HFW.out.i z hz)) (fun z hz => Nat.le_succ_of_le (HFW.out.j z.e (by rw [← e2]; exact List.mem_map.2 ⟨z, hz, rfl⟩))) (fun z hz => Nat.le_succ_of_le (hrf.insT HFW.out.j z hz)) (by have h1 := HLEN.out; have h2 := HFW.out.n; omega) (by have h1 := HLEN.out; have h2 := HFW.out.l; omega)
   have HSS : Hid (∀ W, Below wr.heap.size wr W → (fun W => W.cell? ⟨G, 0, none⟩ = some (.slice q1 m1 d1) ∧ Below wr.heap.size wr W) W) := Lib.hid fun W hW => ⟨(HI.out.rf.later hW).sg.cells.1, hW⟩
   have HSNP : Hid (loadsP x = loadsP x) := Lib.hid rfl
   go_upto_region 14 with fail
   refine wp_region_held_drew (S := (fun W => W.cell? ⟨G, 0, none⟩ = some (.slice q1 m1 d1) ∧ Below wr.heap.size wr W)) (by kernel_rfl) (HSS.out _ (Below.refl _ _).drew) (fun hHeld => ?_)
   refine tk 0 rfl ?_;(try simp only [PT])
   refine tkL 2 rfl (yieldsIf_ld (by rfl) 32 (.tmp 6) rfl (.pointer (some ⟨G, 0, none⟩)) rfl (.agg #[.slice q1 m1 d1, .slice q2 m2 d2, .slice q3 m3 d3]) (fun W hW => HLS.out W hW.2)) ?_
   (try simp only [PT])
   refine ready_at 1 rfl (by kernel_rfl) (fun K hK => ?_)
   go_simp
   refine (HSN.out _ (Below.refl _ _).drew).mono ?_
   rintro ex v1 ⟨p1, n1, c1, D1, p2, n2, c2, T1, p3, n3, c3, N1, rfl, e1, e2, g1, g2, g3, _, _, _, _, _, hb⟩
   have HIS1 := Lib.hid (HIS.out _ (below_step (Below.refl _ _).drew hb) p1 n1 c1 D1 p2 n2 c2 T1 p3 n3 c3 N1 e1 e2 g1 g2 g3)
   clear e1 e2 g1 g2 g3
   have HB_v1 : Hid (Below wr.heap.size wr v1) := Lib.hid (below_step (Below.refl _ _).drew hb)
   clear hb hHeld
   (try dsimp only)
   first
    | refine hK.out _ _ ?hS38 (fun hHeld => ?rest38)
    | (go_wp2_with fail; refine hK.out _ _ ?hS38 (fun hHeld => ?rest38))
   case hS38 => exact HSS.out _ HB_v1.out
   clear hK K
   (try simp only [PT])
   refine ready_at 3 rfl (by kernel_rfl) (fun K hK => ?_)
   go_simp
   refine (HIS1.out).mono ?_
   rintro ex v2 ⟨rfl, hb⟩
   have HB_v2 : Hid (Below wr.heap.size wr v2) := Lib.hid (below_step HB_v1.out hb)
   clear hb hHeld
   (try dsimp only)
   first
    | refine hK.out _ _ ?hS39 (fun hHeld => ?rest39)
    | (go_wp2_with fail; refine hK.out _ _ ?hS39 (fun hHeld => ?rest39))
   case hS39 => exact HSS.out _ HB_v2.out
   clear hK K
   (try simp only [PT])
   refine tk 4 rfl ?_;(try simp only [PT])
   refine ready_at 5 rfl (by kernel_rfl) (fun K hK => ?_)
   go_simp
   refine (HLV.out _).mono ?_
   rintro ex v3 ⟨rfl, hb⟩
   have HB_v3 : Hid (Below wr.heap.size wr v3) := Lib.hid (below_step HB_v2.out hb)
   clear hb hHeld
   (try dsimp only)
   first
    | refine hK.out _ _ ?hS41 (fun hHeld => ?rest41)
    | (go_wp2_with fail; refine hK.out _ _ ?hS41 (fun hHeld => ?rest41))
   case hS41 => exact HSS.out _ HB_v3.out
   clear hK K
   (try simp only [PT])
   refine tk 6 rfl ?_;(try simp only [PT]);refine tk 7 rfl ?_;(try simp only [PT])
   refine wpAnyH_done (by kernel_rfl) ?_ _
   have HBE := Lib.hid (below_step HI.out.le HB_v3.out)
   clear hHeld
   go_wp2
   go_ret
   exact ⟨rfl, HBE.out⟩
end Go.Proofs.YtpfbfhigelbfcaaGreat

