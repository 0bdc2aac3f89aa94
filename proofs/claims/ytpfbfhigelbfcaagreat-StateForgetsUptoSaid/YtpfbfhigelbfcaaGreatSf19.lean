/- The reference of layer 21: List, Names, Texts; Layer 21: what the laws want of package tags; Layer 21: one entry; a word laid (cut out of TagL); Layer 22, the law: what a state has of a digest and of a name, under what is said of package state. (gen_stara.py); Layer 22, the law: a segment of which nothing lives may go, under what is said of package state. (gen_starfo.py); Layer 22: deeds in memory -/
import Derived.Test.YtpfbfhigelbfcaaGreatSf1
import Derived.Test.YtpfbfhigelbfcaaGreatSf3
import Derived.Test.YtpfbfhigelbfcaaGreatSf6
import Derived.Test.YtpfbfhigelbfcaaGreatSf7
import Derived.Test.YtpfbfhigelbfcaaGreatSf10
import Derived.Test.YtpfbfhigelbfcaaGreatSf11
import Derived.Test.YtpfbfhigelbfcaaGreatSf16
import Derived.Test.YtpfbfhigelbfcaaGreatSf17
import Derived.Test.YtpfbfhigelbfcaaGreatSf18
set_option linter.unusedSimpArgs false
set_option linter.unusedVariables false
namespace Go.Proofs.YtpfbfhigelbfcaaGreat
open Go.RowKit Go.Lib
theorem namesT_take {L : List Pt} {k : Nat} {x : Pt} (h : L[k]? = some x) : namesT (L.take (k + 1)) = if x.gone = false then namesT (L.take k) ++ [x.dg] else namesT (L.take k) := by
  obtain ⟨h2, h3⟩ := List.getElem?_eq_some_iff.1 h
  unfold namesT
  rw [List.take_succ_eq_append_getElem h2, h3, List.filter_append, List.map_append]
  by_cases h1 : x.gone = false
  · rw [List.filter_cons_of_pos (by simp [h1]), if_pos h1]; rfl
  · rw [List.filter_cons_of_neg (by simpa using h1), if_neg h1]; simp
theorem namesT_le (L : List Pt) (k : Nat) : (namesT (L.take k)).length ≤ k := by
  unfold namesT
  rw [List.length_map]
  have h1 := List.length_filter_le (fun e : Pt => !e.gone) (L.take k)
  rw [List.length_take] at h1
  omega
section
variable (Ix : World → (Nat → Prop) → (Nat → Prop) → Value → List Pt → Prop)
/-- a table that is made -/
def NewGQ (w : World) (N : Nat → Prop) (L : List Pt) (e : Ending) (w' : World) : Prop := ∃ v S F, e = .returned v ∧ Ix w' S F v (newT L) ∧ (∀ b, S b → w.heap.size ≤ b) ∧ (∀ b, F b → N b ∨ w.heap.size ≤ b) ∧ Below w.heap.size w w'
/-- a table that is turned -/
def OpGQ (w : World) (S F : Nat → Prop) (v : Value) (L : List Pt) (e : Ending) (w' : World) : Prop := ∃ S' F', e = .returned (.tuple #[]) ∧ Ix w' S' F' v L ∧ Chg S w w' ∧ (∀ b, S' b → S b ∨ w.heap.size ≤ b) ∧ (∀ b, F' b → F b ∨ w.heap.size ≤ b)
end
def GetGQ (w : World) (F : Nat → Prop) (r : Pt × Bool) (e : Ending) (w' : World) : Prop := ∃ s, e = .returned (.tuple #[tnV r.1 s, .bool r.2]) ∧ Is w' s r.1.ins ∧ (r.1.ins ≠ [] → ∀ b, s.ownBlock = some b → F b ∨ w.heap.size ≤ b) ∧ Below w.heap.size w w'
def RowGQ (w : World) (F : Nat → Prop) (L : List Pt) (e : Ending) (w' : World) : Prop := ∃ p n c Ls N, e = .returned (.slice p n c) ∧ ptL Ls = L ∧ ReT w' N p n Ls ∧ (∀ b, N b → F b ∨ w.heap.size ≤ b) ∧ (p = none → c = 0) ∧ n ≤ c ∧ c ≤ maxLen ∧ Below w.heap.size w w'
def ListGQ (w : World) (F : Nat → Prop) (L : List ByteArray) (e : Ending) (w' : World) : Prop := ∃ p n c, e = .returned (.slice p n c) ∧ Gs encS w' p n L ∧ (n ≠ 0 → ∀ b off, p = some ⟨b, off, none⟩ → F b ∨ w.heap.size ≤ b) ∧ (p = none → c = 0) ∧ n ≤ c ∧ c ≤ maxLen ∧ Below w.heap.size w w'
def NamesGQ (w : World) (L : List (List Int)) (e : Ending) (w' : World) : Prop := ∃ p n c, e = .returned (.slice p n c) ∧ Ds w' p n L ∧ n ≤ maxLen ∧ Below w.heap.size w w'
/-- Ix w S F v L: in w, v is a table that holds L; its own blocks are those of S, what it reads besides lies in those of F -/
structure TagOk (Ix : World → (Nat → Prop) → (Nat → Prop) → Value → List Pt → Prop) : Prop where
  keep : ∀ {w w' : World} {S F : Nat → Prop} {v : Value} {L : List Pt}, Ix w S F v L → (∀ b, S b ∨ F b → w'.heap[b]? = w.heap[b]?) → w.heap.size ≤ w'.heap.size → Ix w' S F v L
  lt : ∀ {w : World} {S F : Nat → Prop} {v : Value} {L : List Pt}, Ix w S F v L → ∀ b, S b ∨ F b → b < w.heap.size
  dis : ∀ {w : World} {S F : Nat → Prop} {v : Value} {L : List Pt}, Ix w S F v L → ∀ b, S b → ¬ F b
  ok : ∀ {w : World} {S F : Nat → Prop} {v : Value} {L : List Pt}, Ix w S F v L → rowT L ∧ ∀ x ∈ L, dok x.dg
  new : ∀ {w : World} {N : Nat → Prop} {p : Option Addr} {n c : Nat} {Ls : List Tx}, ReT w N p n Ls → (p = none → c = 0) → n ≤ c → c ≤ maxLen → n ≤ 1048576 → insLeT (ptL Ls) 2097151 → Calls Tryz.prog 41 #[.slice p n c] w fun e w' => NewGQ Ix w N (ptL Ls) e w'
  apply : ∀ {w : World} {S F : Nat → Prop} {v : Value} {L : List Pt} (x : Wq), Ix w S F v L → dok x.dg → L.length ≤ 1048576 → insLeT L 2097151 → Calls Tryz.prog 46 #[v, x.v] w fun e w' => OpGQ Ix w S F v (applyT L x) e w'
  keepS : ∀ {w : World} {S F : Nat → Prop} {v u : Value} {L : List Pt} {B : List Int}, Ix w S F v L → Is w u B → (B ≠ [] → ∀ b, u.ownBlock = some b → ¬ S b) → B.length ≤ 2097152 → L.length ≤ 1048576 → insLeT L 2097151 → Calls Tryz.prog 50 #[v, u] w fun e w' => OpGQ Ix w S F v (keepTs L B) e w'
  get : ∀ {w : World} {S F : Nat → Prop} {v : Value} {L : List Pt} (s : ByteArray), Ix w S F v L → Calls Tryz.prog 65 #[v, .string s] w fun e w' => GetGQ w F (getTR L s) e w'
  row : ∀ {w : World} {S F : Nat → Prop} {v : Value} {L : List Pt}, Ix w S F v L → L.length ≤ 1048576 → Calls Tryz.prog 55 #[v] w fun e w' => RowGQ w F L e w'
  count : ∀ {w : World} {S F : Nat → Prop} {v : Value} {L : List Pt}, Ix w S F v L → L.length ≤ 1048576 → Calls Tryz.prog 67 #[v] w fun e w' => e = .returned (.int .i64 ((namesT L).length : Int)) ∧ Below w.heap.size w w'
  list : ∀ {w : World} {S F : Nat → Prop} {v : Value} {L : List Pt} (s : ByteArray) (n : Int), Ix w S F v L → L.length ≤ 1048576 → -9223372036854775808 ≤ n → n ≤ 9223372036854775807 → Calls Tryz.prog 70 #[v, .string s, .int .i64 n] w fun e w' => ListGQ w F (listT L s n) e w'
  names : ∀ {w : World} {S F : Nat → Prop} {v : Value} {L : List Pt}, Ix w S F v L → L.length ≤ 1048576 → Calls Tryz.prog 69 #[v] w fun e w' => NamesGQ w (namesT L) e w'
theorem TagOk.later {Ix : World → (Nat → Prop) → (Nat → Prop) → Value → List Pt → Prop} (hT : TagOk Ix) {w w' : World} {S F : Nat → Prop} {v : Value} {L : List Pt} (h : Ix w S F v L) (hb : Below w.heap.size w w') : Ix w' S F v L :=
  hT.keep h (fun b hb2 => hb.block b (hT.lt h b hb2)) hb.size
theorem ReT.none (w : World) : ReT w (fun _ => False) none 0 [] := ⟨Gs.empty _ _ _, fun h => absurd rfl h, (fun x h => by cases h), (fun x h => by cases h), (fun x h => by cases h), fun b h => h.elim⟩
/-- two states beside each other, and a row of segments of the call's own -/
structure FoI (Sx : World → (Nat → Prop) → (Nat → Prop) → Value → Ps → Prop) (w W : World) (v1 v2 vs : Value) (S1 F1 S2 F2 : Nat → Prop) (x1 x2 : Ps) (o : List Int) : Prop where
  a : Sx W S1 F1 v1 x1
  b : Sx W S2 F2 v2 x2
  g : Gw encI W w.heap.size vs o
  s1 : ∀ b, S1 b ∨ F1 b → w.heap.size ≤ b
  s2 : ∀ b, S2 b ∨ F2 b → w.heap.size ≤ b
  d : ∀ b, S1 b ∨ F1 b → ¬ (S2 b ∨ F2 b)
  e : ∀ b, vs.ownBlock = some b → ¬ (S1 b ∨ F1 b) ∧ ¬ (S2 b ∨ F2 b)
  le : Below w.heap.size w W
theorem Gw.holdB {α : Type} {E : Ec α} {W V : World} {B : Nat} {v : Value} {L : List α} (h : Gw E W B v L) (hk : ∀ b, v.ownBlock = some b → V.heap[b]? = W.heap[b]?) : Gw E V B v L := by
  obtain ⟨hl, h2⟩ := h
  refine ⟨hl, ?_⟩
  rcases h2 with h2 | ⟨b, cap, cur, hv, hb, hgb, r⟩
  · exact Or.inl h2
  · exact Or.inr ⟨b, cap, cur, hv, hb, by rw [hk b (by rw [hv]; rfl)]; exact hgb, r⟩
section
variable {Sx : World → (Nat → Prop) → (Nat → Prop) → Value → Ps → Prop}
theorem FoI.op1 (hT : StOk Sx) {w W V : World} {v1 v2 vs : Value} {S1 F1 S2 F2 S' F' : Nat → Prop} {x1 x2 x' : Ps} {o : List Int} (h : FoI Sx w W v1 v2 vs S1 F1 S2 F2 x1 x2 o) (hx : Sx V S' F' v1 x') (hc : Chg S1 W V) (hs : ∀ b, S' b → S1 b ∨ W.heap.size ≤ b) (hf : ∀ b, F' b → F1 b ∨ W.heap.size ≤ b) : FoI Sx w V v1 v2 vs S' F' S2 F2 x' x2 o := by
  have hn : ∀ b, S' b ∨ F' b → (S1 b ∨ F1 b) ∨ W.heap.size ≤ b := fun b hb => hb.elim (fun h => (hs b h).imp Or.inl id) (fun h => (hf b h).imp Or.inr id)
  refine ⟨hx, hT.keep h.b (fun b hb => hc.block b (hT.lt h.b b hb) fun h1 => h.d b (Or.inl h1) hb) hc.size, h.g.holdB fun b hb => hc.block b (Gw.own_lt h.g hb).2 fun h1 => (h.e b hb).1 (Or.inl h1), fun b hb => (hn b hb).elim (h.s1 b) fun h1 => Nat.le_trans h.le.size h1, h.s2, fun b hb h2 => (hn b hb).elim (fun h1 => h.d b h1 h2) fun h1 => absurd (hT.lt h.b b h2) (Nat.not_lt.2 h1), fun b hb => ⟨fun h1 => (hn b h1).elim (h.e b hb).1 fun h2 => absurd (Gw.own_lt h.g hb).2 (Nat.not_lt.2 h2), (h.e b hb).2⟩, h.le.trans (hc.below (fun b hb => h.s1 b (Or.inl hb)) h.le.size)⟩
theorem FoI.op2 (hT : StOk Sx) {w W V : World} {v1 v2 vs : Value} {S1 F1 S2 F2 S' F' : Nat → Prop} {x1 x2 x' : Ps} {o : List Int} (h : FoI Sx w W v1 v2 vs S1 F1 S2 F2 x1 x2 o) (hx : Sx V S' F' v2 x') (hc : Chg S2 W V) (hs : ∀ b, S' b → S2 b ∨ W.heap.size ≤ b) (hf : ∀ b, F' b → F2 b ∨ W.heap.size ≤ b) : FoI Sx w V v1 v2 vs S1 F1 S' F' x1 x' o := by
  have hn : ∀ b, S' b ∨ F' b → (S2 b ∨ F2 b) ∨ W.heap.size ≤ b := fun b hb => hb.elim (fun h => (hs b h).imp Or.inl id) (fun h => (hf b h).imp Or.inr id)
  refine ⟨hT.keep h.a (fun b hb => hc.block b (hT.lt h.a b hb) fun h1 => h.d b hb (Or.inl h1)) hc.size, hx, h.g.holdB fun b hb => hc.block b (Gw.own_lt h.g hb).2 fun h1 => (h.e b hb).2 (Or.inl h1), h.s1, fun b hb => (hn b hb).elim (h.s2 b) fun h1 => Nat.le_trans h.le.size h1, fun b hb h2 => (hn b h2).elim (fun h1 => h.d b hb h1) fun h1 => absurd (hT.lt h.a b hb) (Nat.not_lt.2 h1), fun b hb => ⟨(h.e b hb).1, fun h1 => (hn b h1).elim (h.e b hb).2 fun h2 => absurd (Gw.own_lt h.g hb).2 (Nat.not_lt.2 h2)⟩, h.le.trans (hc.below (fun b hb => h.s2 b (Or.inl hb)) h.le.size)⟩
theorem FoI.later (hT : StOk Sx) {w W V : World} {v1 v2 vs : Value} {S1 F1 S2 F2 : Nat → Prop} {x1 x2 : Ps} {o : List Int} (h : FoI Sx w W v1 v2 vs S1 F1 S2 F2 x1 x2 o) (hb : Below W.heap.size W V) : FoI Sx w V v1 v2 vs S1 F1 S2 F2 x1 x2 o :=
  ⟨hT.later h.a hb, hT.later h.b hb, h.g.later hb, h.s1, h.s2, h.d, h.e, below_step h.le hb⟩
theorem FoI.app (hT : StOk Sx) {w W V : World} {v1 v2 vs u : Value} {S1 F1 S2 F2 : Nat → Prop} {x1 x2 : Ps} {o o' : List Int} (h : FoI Sx w W v1 v2 vs S1 F1 S2 F2 x1 x2 o) (hg : Gw encI V w.heap.size u o') (hb : W.grownBy V vs.ownBlock) (hu : ∀ b, u.ownBlock = some b → vs.ownBlock = some b ∨ W.heap.size ≤ b) : FoI Sx w V v1 v2 u S1 F1 S2 F2 x1 x2 o' :=
  ⟨hT.keep h.a (fun b h1 => hb.block b (hT.lt h.a b h1) fun e => (h.e b e.symm).1 h1) hb.size, hT.keep h.b (fun b h1 => hb.block b (hT.lt h.b b h1) fun e => (h.e b e.symm).2 h1) hb.size, hg, h.s1, h.s2, h.d,
   fun b h1 => (hu b h1).elim (h.e b) fun h2 => ⟨fun h3 => absurd (hT.lt h.a b h3) (Nat.not_lt.2 h2), fun h3 => absurd (hT.lt h.b b h3) (Nat.not_lt.2 h2)⟩,
   below_new_gw h.le h.g hb h.le.size⟩
end
/-- what is kept of the first k words -/
def othK (L : List Wq) (sg : Int) (k : Nat) : List Wq := (L.take k).filter fun w => decide (w.seg ≠ sg)
theorem othK_step {L : List Wq} {k : Nat} {x : Wq} (h : L[k]? = some x) (sg : Int) : othK L sg (k + 1) = if x.seg = sg then othK L sg k else othK L sg k ++ [x] := by
  obtain ⟨h2, h3⟩ := List.getElem?_eq_some_iff.1 h
  unfold othK
  rw [List.take_succ_eq_append_getElem h2, h3, List.filter_append]
  by_cases e : x.seg = sg
  · rw [if_pos e, List.filter_cons_of_neg (by simpa using e)]; simp
  · rw [if_neg e, List.filter_cons_of_pos (by simpa using e)]; rfl
theorem oth_in {L : List Wx} (h : ∀ x ∈ L, dok x.1.dg ∧ x.1.In) (k : Nat) (sg : Int) : ∀ y ∈ othK (wxL L) sg k, y.In := fun y hy => by
  have h1 := List.mem_of_mem_take (List.mem_filter.1 hy).1
  obtain ⟨x, hx, rfl⟩ := List.mem_map.1 h1
  exact (h x hx).2
theorem othK_len (L : List Wq) (sg : Int) (k : Nat) : (othK L sg k).length ≤ k := by
  unfold othK
  refine Nat.le_trans (List.length_filter_le _ _) ?_
  rw [List.length_take]
  omega
theorem take_fold {L : List Wq} {k : Nat} {x : Wq} (h : L[k]? = some x) (s : Ps) : (L.take (k + 1)).foldl applyS s = applyS ((L.take k).foldl applyS s) x := by
  obtain ⟨h2, h3⟩ := List.getElem?_eq_some_iff.1 h
  rw [List.take_succ_eq_append_getElem h2, h3, List.foldl_append]
  rfl
theorem oth_fold (l : List Wq) (x : Wq) (s : Ps) : (l ++ [x]).foldl applyS s = applyS (l.foldl applyS s) x := by rw [List.foldl_append]; rfl
set_option maxRecDepth 100000 in
set_option maxHeartbeats 4000000 in
theorem stateforgets_any {Sx : World → (Nat → Prop) → (Nat → Prop) → Value → Ps → Prop} (hT : StOk Sx) (p : Option Addr) (n c : Nat) (L : List Wx) (sg : Int) (w : World) (h : Gs encWd w p n L) (hk : ∀ x ∈ L, dok x.1.dg ∧ x.1.In) (hn : n ≤ 500000) :
    Calls Tryz.prog 5 #[.slice p n c, .int .i64 sg] w fun e w' => e = .returned (.bool true) ∧ Below w.heap.size w w' := by
  have HT := Lib.hid hT
  have H := Lib.hid h
  have HKD := Lib.hid hk
  have HLL : Hid ((wxL L).length = n) := Lib.hid (by rw [wxL_length, h.len])
  have HNW := Lib.hid fun W => (hT.new (w := W) (a := 0) (b := 0) (c' := 0) (e := 0) (n := 0) (c := 0) (m := 0) (d := 0) (l := 0) (cr := 0) (D := []) (T := []) (K := []) (reN_none0 W) (reT_none0 W) (Gs.empty encLo W none) SlOk.nil SlOk.nil SlOk.nil SnR.nil (by omega) (by omega) (fun x h => absurd h List.not_mem_nil) (fun x h => absurd h List.not_mem_nil))
  have HLV := Lib.hid fun W => lives22_any hT W
  unfold SnC at HNW
  rw [zero_new] at HNW
  clear hT h hk
  go_enter Tryz.func5, Tryz.ntmps5
  go_upto_region 2 with (first
    | (go_at_call 8; have _hq := HB1; refine (HNW.out _).mono ?_; rintro e w2 ⟨v2, S2, F2, rfl, hx2, hs2, hf2, hb2⟩; have HX2 := Lib.hid hx2; have HS2 := Lib.hid (And.intro hs2 hf2); have HB2 := Lib.hid hb2; clear hx2 hs2 hf2 hb2)
    | (go_at_call 8; refine (HNW.out _).mono ?_; rintro e w1 ⟨v1, S1, F1, rfl, hx1, hs1, hf1, hb1⟩; have HX1 := Lib.hid hx1; have HS1 := Lib.hid (And.intro hs1 hf1); have HB1 := Lib.hid hb1; clear hx1 hs1 hf1 hb1))
  have HI0 : Hid (FoI Sx w w2 v1 v2 (.slice none 0 0) S1 F1 S2 F2 zeroS zeroS []) := Lib.hid ⟨HT.out.later HX1.out HB2.out, HX2.out, Gw.nil _ _ _, fun b hb => hb.elim (HS1.out.1 b) (fun h => (HS1.out.2 b h).elim False.elim id), fun b hb => Nat.le_trans HB1.out.size (hb.elim (HS2.out.1 b) (fun h => (HS2.out.2 b h).elim False.elim id)), fun b hb h2 => absurd (HT.out.lt HX1.out b hb) (Nat.not_lt.2 (h2.elim (HS2.out.1 b) (fun h => (HS2.out.2 b h).elim False.elim id))), (fun b hb => by cases hb), below_step HB1.out HB2.out⟩
  clear HX1 HX2 HS1 HS2 HB1 HB2
  go_wp2
  go_loopw [7, 8] (fun vs j wr => ∃ (k : Nat) (t : Option Addr) (a c' : Nat) (S1 F1 S2 F2 : Nat → Prop), k ≤ n ∧ j = .int .i64 (k : Int) ∧ vs = .slice t a c' ∧ Hid (FoI Sx w wr v1 v2 (.slice t a c') S1 F1 S2 F2 (((wxL L).take k).foldl applyS zeroS) ((othK (wxL L) sg k).foldl applyS zeroS) ((othK (wxL L) sg k).map (·.seg)))) (fun _ j _ => n - (intOf j).toNat)
  case atStart => exact ⟨0, none, 0, 0, S1, F1, S2, F2, by omega, rfl, rfl, HI0⟩
  case round =>
    clear HI0
    obtain ⟨k, t, a, c', S1, F1, S2, F2, hkn', rfl, rfl, HI⟩ := hrel
    by_cases hlt : k < n
    · obtain ⟨b1, off, y, rfl, hy1, hy3, hr⟩ := (H.out.later HI.out.le).wx k hlt
      have HWR : Hid (∀ W, Below w.heap.size w W → W.rangeAt b1 (off + k * 39) (mixL y.1.a y.1.dg y.1.t)) := Lib.hid fun W hW => by
        obtain ⟨b2, off2, z, hp2, hz1, _, hr2⟩ := (H.out.later hW).wx k hlt
        simp only [Option.some.injEq, Addr.mk.injEq, and_true] at hp2
        obtain ⟨rfl, rfl⟩ := hp2
        rw [hy1] at hz1
        obtain rfl := Option.some.inj hz1
        exact hr2
      have HYD := Lib.hid (HKD.out y hy3).1
      have HYN := Lib.hid (HKD.out y hy3).2
      have HST := Lib.hid (othK_step (wxL_get hy1) sg)
      have HTF := Lib.hid (take_fold (wxL_get hy1) zeroS)
      have HFA := Lib.hid ((FewN.fold ((wxL L).take k) FewN.zero).few (by rw [List.length_take]; omega))
      have HFB := Lib.hid ((FewN.fold (othK (wxL L) sg k) FewN.zero).few (by have := othK_len (wxL L) sg k; omega))
      have HOL := Lib.hid (othK_len (wxL L) sg k)
      have hki : (k : Int) < (n : Int) := by omega
      have hk0 : (0 : Int) ≤ (k : Int) := by omega
      have HLA := Lib.hid (wx_load (HWR.out wr HI.out.le))
      have HWL := Lib.hid fun W (hW : Below w.heap.size w W) => wx_load (HWR.out W hW)
      have HCL := Lib.hid fun W (hW : Below w.heap.size w W) => (wx_cells (HWR.out W hW)).1
      have HAP := Lib.hid (HT.out.apply y.1 HI.out.a HYD.out HYN.out HFA.out)
      have HAQ := Lib.hid fun (S' F' : Nat → Prop) W (hx : Sx W S' F' v2 ((othK (wxL L) sg k).foldl applyS zeroS)) => HT.out.apply y.1 hx HYD.out HYN.out HFB.out
      rw [← HTF.out] at HAP
      unfold Wq.v at HAP HAQ
      obtain ⟨X1, hX1⟩ : ∃ x, ((wxL L).take (k + 1)).foldl applyS zeroS = x := ⟨_, rfl⟩
      have HX1 := Lib.hid hX1
      rw [hX1] at HAP
      clear hX1
      obtain ⟨MY, hMY⟩ : ∃ M, mixC y.1.a y.1.dg y.1.t = M := ⟨_, rfl⟩
      rw [hMY] at HLA HAP
      simp only [hMY] at HWL HAQ
      clear hMY hr hy1 hy3
      go_upto_region 7 with (first
        | (refine wpList_ld rfl 39 _ rfl _ rfl _ HLA.out ?_)
        | (go_at_call 10; refine HAP.out.mono ?_; rintro e w3 ⟨S3, F3, rfl, hx3, hc3, hs3, hf3⟩; have HI3 := Lib.hid (HI.out.op1 HT.out hx3 hc3 hs3 hf3); clear hx3 hc3 hs3 hf3))
      have cs := HCL.out w3 HI3.out.le
      have HLB := Lib.hid (HWL.out w3 HI3.out.le)
      have HAQ3 := Lib.hid (HAQ.out _ _ _ HI3.out.b)
      by_cases hs : y.1.seg = sg
      · have hsb : (y.1.seg != sg) = false := by simpa using hs
        rw [if_pos hs] at HST
        rw [← HST.out, ← HX1.out] at HI3
        generalize y.1.seg = ys at *
        clear hs
        go_wp2
        exact ⟨⟨k + 1, _, _, _, _, _, _, _, by omega, by go_num, rfl, HI3⟩, by simp [intOf] <;> omega⟩
      · have hsb : (y.1.seg != sg) = true := by simpa using hs
        rw [if_neg hs] at HST
        have HFO : Hid ((othK (wxL L) sg (k + 1)).foldl applyS zeroS = applyS ((othK (wxL L) sg k).foldl applyS zeroS) y.1) := Lib.hid (by rw [HST.out, oth_fold])
        have HMP : Hid ((othK (wxL L) sg (k + 1)).map (·.seg) = (othK (wxL L) sg k).map (·.seg) ++ [y.1.seg]) := Lib.hid (by rw [HST.out, List.map_append]; rfl)
        rw [← HFO.out] at HAQ3
        generalize y.1.seg = ys at *
        clear hs
        go_upto_region 9 with (first
          | (refine wpList_ld rfl 39 _ rfl _ rfl _ HLB.out ?_)
          | (go_at_call 10; refine HAQ3.out.mono ?_; rintro e w4 ⟨S4, F4, rfl, hx4, hc4, hs4, hf4⟩; have HI4 := Lib.hid (HI3.out.op2 HT.out hx4 hc4 hs4 hf4); clear hx4 hc4 hs4 hf4))
        have cs4 := HCL.out w4 HI4.out.le
        clear cs hsb
        have HI5 := Lib.hid (HI4.out.later HT.out ((Below.refl _ _).alloc (Nat.le_refl _) (.cells #[.int .i64 ys] 3)))
        have HN5 := Lib.hid (Gs.one encI w4 ys #[.int .i64 ys] rfl 3 (0, 0))
        have HZ5 : Hid (((othK (wxL L) sg k).map (·.seg)).length + 1 ≤ 2097216) := Lib.hid (by rw [List.length_map]; have := HOL.out; omega)
        go_wp2_with (refine wpList_append_fr encI rfl _ _ 40 rfl Tryz.underlying40 (.int .i64 0) 8 infoI rfl (by decide) w.heap.size _ _ rfl HI5.out.g _ 1 1 [ys] rfl HN5.out (fun h => by cases h) HZ5.out HI5.out.le.size ?_; intro v8 w8 ho8 hg8 hf8; have HI8 := Lib.hid (HI5.out.app HT.out ho8 hg8 hf8); obtain ⟨p8, c8, hv8, _⟩ := ho8.open; obtain ⟨m8, hm8⟩ : ∃ z, List.length ((othK (wxL L) sg k).map (·.seg) ++ [ys]) = z := ⟨_, rfl⟩; rw [hm8] at hv8; subst hv8; clear ho8 hg8 hf8 hm8)
        rw [← HMP.out, ← HX1.out] at HI8
        exact ⟨⟨k + 1, _, _, _, _, _, _, _, by omega, by go_num, rfl, HI8⟩, by simp [intOf] <;> omega⟩
    · obtain rfl : k = n := by omega
      have HTL : Hid ((wxL L).take k = wxL L) := Lib.hid (List.take_of_length_le (by rw [HLL.out]; exact Nat.le_refl _))
      have HOE : Hid (othK (wxL L) sg k = (wxL L).filter fun w => decide (w.seg ≠ sg)) := Lib.hid (by unfold othK; rw [HTL.out])
      have HFG := Lib.hid fun hh => forgets (wxL L) sg (fun x hx => by obtain ⟨y, _, rfl⟩ := List.mem_map.1 hx; exact y.2) hh
      rw [← HOE.out] at HFG
      have HI2 := Lib.hid HI.out
      rw [HTL.out] at HI2
      have HFA := Lib.hid ((FewN.fold (wxL L) FewN.zero).few (by rw [HLL.out]; omega))
      have HFB := Lib.hid ((FewN.fold (othK (wxL L) sg k) FewN.zero).few (by have := othK_len (wxL L) sg k; omega))
      have HOR : Hid (∀ b ∈ (othK (wxL L) sg k).map (·.seg), Rgi b) := Lib.hid fun b hb => by
        obtain ⟨y, hy, rfl⟩ := List.mem_map.1 hb
        exact (oth_in HKD.out k sg y hy).1
      have HOS : Hid (((othK (wxL L) sg k).map (·.seg)).length ≤ 2097152) := Lib.hid (by rw [List.length_map]; have := othK_len (wxL L) sg k; omega)
      clear HI
      generalize (othK (wxL L) sg k).map (·.seg) = os at *
      generalize (othK (wxL L) sg k).foldl applyS zeroS = XB at *
      generalize (wxL L).foldl applyS zeroS = XA at *
      have HHE := Lib.hid (HT.out.here sg HI2.out.a HFA.out)
      obtain ⟨NH, hNH⟩ : ∃ z, (hereP XA sg).length = z := ⟨_, rfl⟩
      by_cases hz : NH = 0
      · subst hz
        have HEQ : Hid (keepS XA os = XB) := Lib.hid (HFG.out (List.length_eq_zero_iff.1 hNH))
        go_upto_region 12 with (go_at_call 17; refine HHE.out.mono ?_; rintro e w5 ⟨p5, n5, c5, o5, rfl, he5, hg5, _, _, hb5⟩; have hn5 : n5 = 0 := (by have h1 := hg5.len; rw [← wxL_length, he5, hNH] at h1; exact h1.symm); subst hn5; have HI5 := Lib.hid (HI2.out.later HT.out hb5); clear he5 hg5 hb5)
        have HKP := Lib.hid (HT.out.keepS HI5.out.a HI5.out.g.is (fun _ b hb h1 => (HI5.out.e b hb).1 (Or.inl h1)) HOS.out HOR.out HFA.out)
        rw [HEQ.out] at HKP
        go_upto_region 13 with (go_at_call 12; refine HKP.out.mono ?_; rintro e w6 ⟨S6, F6, rfl, hx6, hc6, hs6, hf6⟩; have HI6 := Lib.hid (HI5.out.op1 HT.out hx6 hc6 hs6 hf6); clear hx6 hc6 hs6 hf6)
        have HSA := Lib.hid (HT.out.snapshot HI6.out.a HFB.out)
        have HSB := Lib.hid fun W (hW : Below w6.heap.size w6 W) => HT.out.snapshot (HT.out.later HI6.out.b hW) HFB.out
        go_upto_region 14 with (first
          | (go_at_call 15; refine (HSB.out _ HB67.out).mono ?_; rintro e w8 ⟨pb, nb, cb, DB, qb, mb, db, TB, rb, lb, crb, NB, rfl, hdb, htb, rnb, rtb, glb, _, _, _, _, _, hb8⟩; have HB8 := Lib.hid (And.intro hdb (And.intro htb (And.intro rnb (And.intro rtb glb)))); have HB78 := Lib.hid hb8; clear hdb htb rnb rtb glb hb8; obtain ⟨wA, wZ, gB, hA, hZ, hgB, hBX⟩ := box2 w8 #[.int .i64 0, .int .i64 0, .int .i64 0, .int .u64 0, .slice none 0 0, .slice none 0 0, .slice none 0 0] #[.int .i64 0, .int .i64 0, .int .i64 0, .int .u64 0, .slice none 0 0, .slice none 0 0, .slice none 0 0] 27 27)
          | (go_at_call 15; refine HSA.out.mono ?_; rintro e w7 ⟨pa, na, ca, DA, qa, ma, da, TA, ra, la, cra, NA, rfl, hda, hta, rna, rta, gla, _, _, _, _, _, hb7⟩; have HA7 := Lib.hid (And.intro hda (And.intro hta (And.intro rna (And.intro rta gla)))); have HB67 := Lib.hid hb7; clear hda hta rna rta gla hb7)
          | (refine wpList_store_row rfl 27 _ _ rfl w8.heap.size (SnC 0 0 0 0 (.slice pa na ca) (.slice qa ma da) (.slice ra la cra)) rfl rfl 27 _ hBX.a sizeSn rfl (by simp [SnC, Value.oneCell']) ?_; generalize hwP : World.setRow _ _ _ = wP; have hz9 : wP.heap[gB]? = some (.cells #[.int .i64 0, .int .i64 0, .int .i64 0, .int .u64 0, .slice none 0 0, .slice none 0 0, .slice none 0 0] 27 (0, 0)) := (by rw [← hwP]; exact (setRow_other _ _ _ _ (Nat.ne_of_gt hBX.lt.1)).trans hBX.z))
          | (refine wpList_store_row rfl 27 _ _ rfl gB (SnC 0 0 0 0 (.slice pb nb cb) (.slice qb mb db) (.slice rb lb crb)) rfl rfl 27 _ hz9 sizeSn rfl (by simp [SnC, Value.oneCell']) ?_; generalize hwQ : World.setRow _ _ _ = wQ))
        have HEA : Hid (wQ.heap[w8.heap.size]? = some (.cells (SnC 0 0 0 0 (.slice pa na ca) (.slice qa ma da) (.slice ra la cra)) 27 (0, 0))) := Lib.hid (by rw [← hwQ, ← hwP]; exact (setRow_other _ _ _ _ (Nat.ne_of_lt hBX.lt.1)).trans (setRow_heap _ _ _ _ _ _ hBX.a))
        have HEB : Hid (wQ.heap[gB]? = some (.cells (SnC 0 0 0 0 (.slice pb nb cb) (.slice qb mb db) (.slice rb lb crb)) 27 (0, 0))) := Lib.hid (by rw [← hwQ]; exact setRow_heap _ _ _ _ _ _ hz9)
        have HBQ : Hid (Below w8.heap.size w8 wQ) := Lib.hid (by rw [← hwQ, ← hwP]; exact below_setRow8 (below_setRow8 hBX.le _ _ (Nat.le_refl _)) _ _ (Nat.le_of_lt hBX.lt.1))
        obtain ⟨g8, hg8⟩ : ∃ g, w8.heap.size = g := ⟨_, rfl⟩
        rw [hg8] at HEA
        rw [hg8]
        clear hwP hwQ hz9 hA hZ hgB hBX hg8
        have HCL : Hid (∀ W, Below wQ.heap.size wQ W → (W.cell? ⟨g8, 4, none⟩ = some (.slice pa na ca) ∧ W.cell? ⟨g8, 5, none⟩ = some (.slice qa ma da) ∧ W.cell? ⟨g8, 6, none⟩ = some (.slice ra la cra)) ∧ W.cell? ⟨gB, 4, none⟩ = some (.slice pb nb cb) ∧ W.cell? ⟨gB, 5, none⟩ = some (.slice qb mb db) ∧ W.cell? ⟨gB, 6, none⟩ = some (.slice rb lb crb)) := Lib.hid fun W hW => by
          have h1 := obj_later HEA.out hW
          have h2 := obj_later HEB.out hW
          exact ⟨⟨cell_of_row _ _ 4 _ _ _ h1, cell_of_row _ _ 5 _ _ _ h1, cell_of_row _ _ 6 _ _ _ h1⟩, cell_of_row _ _ 4 _ _ _ h2, cell_of_row _ _ 5 _ _ _ h2, cell_of_row _ _ 6 _ _ _ h2⟩
        have HRA := Lib.hid fun W (hW : Below wQ.heap.size wQ W) => And.intro (((HA7.out.2.2.1.later HB78.out).later HBQ.out).later hW) (And.intro (((HA7.out.2.2.2.1.later HB78.out).later HBQ.out).later hW) (((HA7.out.2.2.2.2.later HB78.out).later HBQ.out).later hW))
        have HRB := Lib.hid fun W (hW : Below wQ.heap.size wQ W) => And.intro ((HB8.out.2.2.1.later HBQ.out).later hW) (And.intro ((HB8.out.2.2.2.1.later HBQ.out).later hW) ((HB8.out.2.2.2.2.later HBQ.out).later hW))
        have HNA : Hid (na ≤ 1048576 ∧ ma ≤ 1048576 ∧ la ≤ 1048576) := Lib.hid (by
          have h1 := HFB.out.n
          have h2 := HFB.out.l
          have h3 := HA7.out.2.2.2.2.len
          unfold loadsP at h3
          rw [List.length_map] at h3
          rw [← HA7.out.1, ← HA7.out.2.1, peL_length, ptL_length, HA7.out.2.2.1.gs.len, HA7.out.2.2.2.1.gs.len] at h1
          omega)
        have HS1 := Lib.hid fun W (hW : Below wQ.heap.size wQ W) => rsame20_any pa pb na ca nb cb DA DB W (HRA.out W hW).1.gs (HRB.out W hW).1.gs (HA7.out.1.trans HB8.out.1.symm) (HRA.out W hW).1.is (HRB.out W hW).1.is (HRA.out W hW).1.dk (fun x hx => Nat.le_trans (HFB.out.i x.e (by rw [← HA7.out.1]; exact List.mem_map_of_mem hx)) (by decide)) (by have := HNA.out; omega)
        have HS2 := Lib.hid fun W (hW : Below wQ.heap.size wQ W) => rsame21_any qa qb ma da mb db TA TB W (HRA.out W hW).2.1.gs (HRB.out W hW).2.1.gs (HA7.out.2.1.trans HB8.out.2.1.symm) (HRA.out W hW).2.1.is (HRB.out W hW).2.1.is (HRA.out W hW).2.1.dk (fun x hx => Nat.le_trans (HFB.out.j x.e (by rw [← HA7.out.2.1]; exact List.mem_map_of_mem hx)) (by decide)) (by have := HNA.out; omega)
        have HS3 := Lib.hid fun W (hW : Below wQ.heap.size wQ W) => rsloads22_any ra rb la cra lb crb _ W (HRA.out W hW).2.2 (HRB.out W hW).2.2 (by have := HNA.out; omega)
        have HBw : Hid (Below w.heap.size w wQ) := Lib.hid (below_step HI6.out.le (below_step HB67.out (below_step HB78.out HBQ.out)))
        obtain ⟨⟨k1, k2, k3⟩, k4, k5, k6⟩ := HCL.out wQ (Below.refl _ _)
        go_wp2_with (first
          | (go_at_call 37; refine (HS1.out _ (Below.refl _ _)).mono ?_; rintro e u1 ⟨rfl, hu1⟩; have HU1 := Lib.hid hu1; clear k1 k2 k3 k4 k5 k6; obtain ⟨⟨k1, k2, k3⟩, k4, k5, k6⟩ := HCL.out u1 hu1; clear hu1)
          | (go_at_call 38; refine (HS2.out _ HU1.out).mono ?_; rintro e u2 ⟨rfl, hu2⟩; have HU2 := Lib.hid (below_step HU1.out hu2); clear k1 k2 k3 k4 k5 k6; obtain ⟨⟨k1, k2, k3⟩, k4, k5, k6⟩ := HCL.out u2 HU2.out; clear hu2)
          | (go_at_call 19; refine (HS3.out _ HU2.out).mono ?_; rintro e u3 ⟨rfl, hu3⟩; have HU3 := Lib.hid (below_step HU2.out hu3); clear hu3)
          | (go_at_call 22; refine (HLV.out _).mono ?_; rintro e u4 ⟨rfl, hu4⟩; have HU4 := Lib.hid (below_step HU3.out hu4); clear hu4))
        go_ret
        exact ⟨rfl, below_step HBw.out HU4.out⟩
      · have hpos : (0 : Int) < (NH : Int) := by omega
        clear hz
        go_wp2_with (first
          | (go_at_call 17; refine HHE.out.mono ?_; rintro e w5 ⟨p5, n5, c5, o5, rfl, he5, hg5, _, _, hb5⟩; have hn5 : n5 = NH := (by have h1 := hg5.len; rw [← wxL_length, he5, hNH] at h1; exact h1.symm); subst hn5; have HB5 := Lib.hid (below_step HI2.out.le hb5); clear he5 hg5 hb5)
          | (go_at_call 22; refine (HLV.out _).mono ?_; rintro e u4 ⟨rfl, hu4⟩; have HU4 := Lib.hid (below_step HB5.out hu4); clear hu4))
        go_ret
        exact ⟨rfl, HU4.out⟩
structure Dy where
  k : Int
  w : Wq
  hd : w.dg.length = 32
  p : Option Addr
  c : Nat
  B : List Int
def Dy.s (x : Dy) : Value := .slice x.p x.B.length x.c
def Dy.f (x : Dy) : List Value := .int .i64 x.k :: (mixL x.w.a x.w.dg x.w.t ++ [x.s])
/-! ### the reference's state in a block -/
def stA (q1 q2 q3 : Option Addr) (m1 d1 m2 d2 m3 d3 : Nat) : Array Value := #[.slice q1 m1 d1, .slice q2 m2 d2, .slice q3 m3 d3]
/-- a state of the reference in block G, read out of blocks of N -/
structure RfS (W : World) (G : Nat) (N : Nat → Prop) (y : Ps) (q1 q2 q3 : Option Addr) (m1 d1 m2 d2 m3 d3 : Nat) (o1 : List Ex) (o2 : List Tx) : Prop where
  sg : Sg W G (.slice q1 m1 d1) (.slice q2 m2 d2) (.slice q3 m3 d3)
  e : ReN W N q1 m1 o1
  t : ReT W N q2 m2 o2
  l : Gs encLo W q3 m3 (ldL y.L)
  ln : m3 ≠ 0 → ∀ b off, q3 = some ⟨b, off, none⟩ → N b
  ed : peL o1 = y.D
  td : ptL o2 = y.T
  ng : ¬ N G
section
variable {W V : World} {G : Nat} {N : Nat → Prop} {y : Ps} {q1 q2 q3 : Option Addr} {m1 d1 m2 d2 m3 d3 : Nat} {o1 : List Ex} {o2 : List Tx}
theorem RfS.hold (h : RfS W G N y q1 q2 q3 m1 d1 m2 d2 m3 d3 o1 o2) (hk : ∀ b, b = G ∨ N b → V.heap[b]? = W.heap[b]?) (hs : W.heap.size ≤ V.heap.size) : RfS V G N y q1 q2 q3 m1 d1 m2 d2 m3 d3 o1 o2 :=
  ⟨(hk G (Or.inl rfl)).trans h.sg, h.e.hold (fun b hb => hk b (Or.inr hb)) hs, h.t.hold (fun b hb => hk b (Or.inr hb)) hs, h.l.hold (fun hn b off e => hk b (Or.inr (h.ln hn b off e))), h.ln, h.ed, h.td, h.ng⟩
theorem RfS.lt (h : RfS W G N y q1 q2 q3 m1 d1 m2 d2 m3 d3 o1 o2) : ∀ b, b = G ∨ N b → b < W.heap.size := fun b hb => hb.elim (fun e => by rw [e]; exact h.sg.lt) (h.e.lt b)
theorem RfS.later (h : RfS W G N y q1 q2 q3 m1 d1 m2 d2 m3 d3 o1 o2) (hb : Below W.heap.size W V) : RfS V G N y q1 q2 q3 m1 d1 m2 d2 m3 d3 o1 o2 := h.hold (fun b h1 => hb.block b (h.lt b h1)) hb.size
theorem RfS.insT (h : RfS W G N y q1 q2 q3 m1 d1 m2 d2 m3 d3 o1 o2) {k : Nat} (hi : insLeT y.T k) : ∀ x ∈ o2, x.e.ins.length ≤ k := fun x hx => hi x.e (by rw [← h.td]; exact List.mem_map.2 ⟨x, hx, rfl⟩)
end
/-- blocks of N, and new ones -/
def nextN (N : Nat → Prop) (W V : World) : Nat → Prop := fun b => N b ∨ (W.heap.size ≤ b ∧ b < V.heap.size)
theorem EnR.re {W V : World} {N : Nat → Prop} {p p' : Option Addr} {n n' : Nat} {L L' : List Ex} {a : Value} {D : List Pe} (h : ReN W N p n L) (hb : Below W.heap.size W V) (hE : EnR V W.heap.size p' n' L' a D) (hp : (p' = p ∧ n' = n) ∨ p' = none) (hL : ∀ x ∈ L', x ∈ L) :
    ∃ q m d o, a = .slice q m d ∧ peL o = D ∧ ReN V (nextN N W V) q m o := by
  obtain ⟨q, m, d, o, h1, h2, h3, h4, h5⟩ := hE
  refine ⟨q, m, d, o, h1, h2, h.next hb h3 (fun hn b off e => ?_) (fun x hx => (h5 x hx).imp (hL x) id)⟩
  rcases h4 with ⟨e1, e2⟩ | h4
  · rcases hp with ⟨e3, e4⟩ | e3
    · exact Or.inl (h.row (by omega) b off (by rw [← e3, ← e1]; exact e))
    · rw [e1, e3] at e; cases e
  · exact Or.inr (h4 b off e)
theorem TnR.re {W V : World} {N : Nat → Prop} {p p' : Option Addr} {n n' : Nat} {L L' : List Tx} {a : Value} {D : List Pt} (h : ReT W N p n L) (hb : Below W.heap.size W V) (hE : TnR V W.heap.size p' n' L' a D) (hp : (p' = p ∧ n' = n) ∨ p' = none) (hL : ∀ x ∈ L', x ∈ L) :
    ∃ q m d o, a = .slice q m d ∧ ptL o = D ∧ ReT V (nextN N W V) q m o := by
  obtain ⟨q, m, d, o, h1, h2, h3, h4, h5⟩ := hE
  refine ⟨q, m, d, o, h1, h2, h.next hb h3 (fun hn b off e => ?_) (fun x hx => (h5 x hx).imp (hL x) id)⟩
  rcases h4 with ⟨e1, e2⟩ | h4
  · rcases hp with ⟨e3, e4⟩ | e3
    · exact Or.inl (h.row (by omega) b off (by rw [← e3, ← e1]; exact e))
    · rw [e1, e3] at e; cases e
  · exact Or.inr (h4 b off e)
theorem LoR.re {W V : World} {N : Nat → Prop} {p p' : Option Addr} {n n' : Nat} {c : Value} {l : List (Int × Int)} (hN : n ≠ 0 → ∀ b off, p = some ⟨b, off, none⟩ → N b) (hE : LoR V W.heap.size p' n' c l) (hp : (p' = p ∧ n' = n) ∨ p' = none) :
    ∃ q m d, c = .slice q m d ∧ Gs encLo V q m (ldL l) ∧ (m ≠ 0 → ∀ b off, q = some ⟨b, off, none⟩ → nextN N W V b) := by
  obtain ⟨q, m, d, h1, h2, h4⟩ := hE
  refine ⟨q, m, d, h1, h2, fun hn b off e => ?_⟩
  rcases h4 with ⟨e1, e2⟩ | h4
  · rcases hp with ⟨e3, e4⟩ | e3
    · exact Or.inl (hN (by omega) b off (by rw [← e3, ← e1]; exact e))
    · rw [e1, e3] at e; cases e
  · refine Or.inr ⟨h4 b off e, ?_⟩
    subst e
    exact h2.block_lt (by omega)
/-- what a function of the reference answers, out of a state that lies so -/
theorem StQ.re {W V : World} {N : Nat → Prop} {p q r p' q' r' : Option Addr} {n m l n' m' l' : Nat} {L1 D : List Ex} {L2 T : List Tx} {y : Ps} {e : Ending} (h1 : ReN W N p n L1) (h2 : ReT W N q m L2) (h3 : l ≠ 0 → ∀ b off, r = some ⟨b, off, none⟩ → N b) (hS : StQ W p' q' r' n' m' l' D T y e V)
    (c1 : (p' = p ∧ n' = n) ∨ p' = none) (c2 : (q' = q ∧ m' = m) ∨ q' = none) (c3 : (r' = r ∧ l' = l) ∨ r' = none) (k1 : ∀ x ∈ D, x ∈ L1) (k2 : ∀ x ∈ T, x ∈ L2) :
    ∃ q1 m1 d1 o1 q2 m2 d2 o2 q3 m3 d3, e = .returned (.agg (stA q1 q2 q3 m1 d1 m2 d2 m3 d3)) ∧ peL o1 = y.D ∧ ReN V (nextN N W V) q1 m1 o1 ∧ ptL o2 = y.T ∧ ReT V (nextN N W V) q2 m2 o2 ∧ Gs encLo V q3 m3 (ldL y.L) ∧ (m3 ≠ 0 → ∀ b off, q3 = some ⟨b, off, none⟩ → nextN N W V b) ∧ Below W.heap.size W V := by
  obtain ⟨a, b, c, he, ha, hb, hc, hbl⟩ := hS
  obtain ⟨q1, m1, d1, o1, rfl, g1, g2⟩ := EnR.re h1 hbl ha c1 k1
  obtain ⟨q2, m2, d2, o2, rfl, g3, g4⟩ := TnR.re h2 hbl hb c2 k2
  obtain ⟨q3, m3, d3, rfl, g5, g6⟩ := LoR.re h3 hc c3
  exact ⟨q1, m1, d1, o1, q2, m2, d2, o2, q3, m3, d3, he, g1, g2, g3, g4, g5, g6, hbl⟩
section
variable {Sx : World → (Nat → Prop) → (Nat → Prop) → Value → Ps → Prop}
/-- the state, and the reference's -/
structure StS (Sx : World → (Nat → Prop) → (Nat → Prop) → Value → Ps → Prop) (w W : World) (v : Value) (S F N : Nat → Prop) (G : Nat) (x y : Ps) (q1 q2 q3 : Option Addr) (m1 d1 m2 d2 m3 d3 : Nat) (o1 : List Ex) (o2 : List Tx) : Prop where
  st : Sx W S F v x
  rf : RfS W G N y q1 q2 q3 m1 d1 m2 d2 m3 d3 o1 o2
  ds : ∀ b, S b → ¬ N b
  dg : ¬ S G ∧ ¬ F G
  sa : ∀ b, S b → w.heap.size ≤ b
  gw : w.heap.size ≤ G
  le : Below w.heap.size w W
variable {w W V : World} {v : Value} {S F N S' F' : Nat → Prop} {G : Nat} {x y x' : Ps} {q1 q2 q3 : Option Addr} {m1 d1 m2 d2 m3 d3 : Nat} {o1 : List Ex} {o2 : List Tx}
theorem StS.later (hT : StOk Sx) (h : StS Sx w W v S F N G x y q1 q2 q3 m1 d1 m2 d2 m3 d3 o1 o2) (hb : Below W.heap.size W V) : StS Sx w V v S F N G x y q1 q2 q3 m1 d1 m2 d2 m3 d3 o1 o2 :=
  ⟨hT.later h.st hb, h.rf.later hb, h.ds, h.dg, h.sa, h.gw, below_step h.le hb⟩
theorem StS.op (hT : StOk Sx) (h : StS Sx w W v S F N G x y q1 q2 q3 m1 d1 m2 d2 m3 d3 o1 o2) (hx : Sx V S' F' v x') (hc : Chg S W V) (hs : ∀ b, S' b → S b ∨ W.heap.size ≤ b) (hf : ∀ b, F' b → F b ∨ W.heap.size ≤ b) : StS Sx w V v S' F' N G x' y q1 q2 q3 m1 d1 m2 d2 m3 d3 o1 o2 := by
  have hl := h.rf.lt
  refine ⟨hx, h.rf.hold (fun b hb => hc.block b (hl b hb) (fun hS => hb.elim (fun e => h.dg.1 (by rw [← e]; exact hS)) (h.ds b hS))) hc.size, fun b hS hN => (hs b hS).elim (fun h1 => h.ds b h1 hN) (fun h1 => absurd (hl b (Or.inr hN)) (Nat.not_lt.2 h1)), ⟨fun e => (hs G e).elim h.dg.1 (fun h1 => absurd (hl G (Or.inl rfl)) (Nat.not_lt.2 h1)), fun e => (hf G e).elim h.dg.2 (fun h1 => absurd (hl G (Or.inl rfl)) (Nat.not_lt.2 h1))⟩,
    fun b hS => (hs b hS).elim (h.sa b) (Nat.le_trans h.le.size), h.gw, h.le.trans (hc.below h.sa h.le.size)⟩
/-- the reference's answer stored over the old one -/
theorem StS.put (hT : StOk Sx) (h : StS Sx w W v S F N G x y q1 q2 q3 m1 d1 m2 d2 m3 d3 o1 o2) (hb : Below W.heap.size W V) {y' : Ps} {p1 p2 p3 : Option Addr} {n1 c1 n2 c2 n3 c3 : Nat} {u1 : List Ex} {u2 : List Tx} (e1 : peL u1 = y'.D) (g1 : ReN V (nextN N W V) p1 n1 u1) (e2 : ptL u2 = y'.T) (g2 : ReT V (nextN N W V) p2 n2 u2) (g3 : Gs encLo V p3 n3 (ldL y'.L)) (g4 : n3 ≠ 0 → ∀ b off, p3 = some ⟨b, off, none⟩ → nextN N W V b) :
    StS Sx w (V.setRow G (stA p1 p2 p3 n1 c1 n2 c2 n3 c3)) v S F (nextN N W V) G x y' p1 p2 p3 n1 c1 n2 c2 n3 c3 u1 u2 := by
  have hG := h.rf.sg.lt
  have hnG : ∀ b, nextN N W V b → b ≠ G := fun b hb e => by
    rcases hb with hb | hb
    · exact h.rf.ng (by rw [← e]; exact hb)
    · omega
  have hk : ∀ b, b ≠ G → (V.setRow G (stA p1 p2 p3 n1 c1 n2 c2 n3 c3)).heap[b]? = V.heap[b]? := fun b hb => setRow_other _ _ _ _ hb
  have hsz : (V.setRow G (stA p1 p2 p3 n1 c1 n2 c2 n3 c3)).heap.size = V.heap.size := setRow_size _ _ _
  refine ⟨hT.keep (hT.later h.st hb) (fun b hb2 => hk b (fun e => hb2.elim (fun e2 => h.dg.1 (by rw [← e]; exact e2)) (fun e2 => h.dg.2 (by rw [← e]; exact e2)))) (by rw [hsz]; exact Nat.le_refl _),
    ⟨Sg.row (h.rf.sg.later hb), g1.hold (fun b hN => hk b (hnG b hN)) (by rw [hsz]; exact Nat.le_refl _), g2.hold (fun b hN => hk b (hnG b hN)) (by rw [hsz]; exact Nat.le_refl _), g3.hold (fun hn b off e => hk b (hnG b (g4 hn b off e))), g4, e1, e2, fun e => hnG G e rfl⟩,
    fun b hS hN => hN.elim (h.ds b hS) (fun h1 => absurd (hT.lt h.st b (Or.inl hS)) (Nat.not_lt.2 h1.1)), h.dg, h.sa, h.gw, below_setRow8 (below_step h.le hb) _ _ h.gw⟩
end
/-- how much there is of a state behind k deeds -/
structure FewK (x : Ps) (a b c k : Nat) : Prop where
  n : x.D.length + x.T.length ≤ a + k
  l : x.L.length ≤ b + k
  i : insLe x.D (c + k)
  j : insLeT x.T (c + k)
theorem FewK.few {x : Ps} {a b c k : Nat} (h : FewK x a b c k) (ha : a + k ≤ 1048576) (hb : b + k ≤ 1048576) (hc : c + k ≤ 2097151) : x.Few :=
  ⟨Nat.le_trans h.n ha, Nat.le_trans h.l hb, fun y hy => Nat.le_trans (h.i y hy) hc, fun y hy => Nat.le_trans (h.j y hy) hc⟩
theorem apply_one (x : Ps) (w : Wq) : (applyS x w).D.length + (applyS x w).T.length ≤ x.D.length + x.T.length + 1 := by
  show (applyE x.D w).length + (applyT x.T w).length ≤ _
  have h1 := applyE_length x.D w
  have h2 := applyT_length x.T w
  by_cases hk : w.k = 3 ∨ w.k = 4
  · have e : applyE x.D w = x.D := by
      unfold applyE
      rw [if_neg (fun h => by omega), if_neg (fun h => by omega)]
    rw [e]
    omega
  · have e : applyT x.T w = x.T := by
      unfold applyT
      rw [if_neg (fun h => by omega), if_neg (fun h => by omega)]
    rw [e]
    omega
theorem FewK.apply {x : Ps} {a b c k : Nat} (h : FewK x a b c k) (w : Wq) : FewK (applyS x w) a b c (k + 1) :=
  ⟨by have h1 := apply_one x w; have h2 := h.n; omega, by have h1 := applyL_length x.L w; have h2 := h.l; show (applyL x.L w).length ≤ _; omega, applyE_ins h.i, applyT_ins h.j⟩
theorem FewK.keep {x : Ps} {a b c k : Nat} (h : FewK x a b c k) (B : List Int) : FewK (keepS x B) a b c (k + 1) :=
  ⟨by have h1 := keepR_length x.D B; have h2 := keepTs_length x.T B; have h3 := h.n; show (keepR x.D B).length + (keepTs x.T B).length ≤ _; omega, by have h1 := List.length_filter_le (fun y : Int × Int => decide (y.1 ∈ B)) x.L; have h2 := h.l; show (x.L.filter fun y => decide (y.1 ∈ B)).length ≤ _; omega,
   fun y hy => Nat.le_succ_of_le (keepR_ins h.i B y hy), fun y hy => Nat.le_succ_of_le (keepTs_ins h.j B y hy)⟩
theorem newL_length (l : List (Int × Int)) : (newL l).length ≤ l.length := by
  have : ∀ (l o : List (Int × Int)), (l.foldl (fun o x => loadP o x.1 x.2 true) o).length ≤ o.length + l.length := by
    intro l
    induction l with
    | nil => intro o; simp
    | cons x l ih =>
      intro o
      have h1 := ih (loadP o x.1 x.2 true)
      have h2 := loadP_length o x.1 x.2 true
      rw [List.foldl_cons, List.length_cons]
      omega
  simpa [newL] using this l []
theorem FewK.new {D : List Pe} {T : List Pt} {L : List (Int × Int)} {c : Nat} (hi : insLe D c) (hj : insLeT T c) : FewK (newS D T L) (D.length + T.length) L.length c 0 :=
  ⟨by have h1 := newE_length D; have h2 := newT_length T; show (newE D).length + (newT T).length ≤ _; omega, newL_length L, newE_ins hi, newT_ins hj⟩
end Go.Proofs.YtpfbfhigelbfcaaGreat

