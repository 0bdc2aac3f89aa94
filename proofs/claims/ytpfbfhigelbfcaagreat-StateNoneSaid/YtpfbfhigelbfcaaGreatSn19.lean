/- The reference of layer 21: List, Names, Texts; Layer 21: what the laws want of package tags; Layer 21: one entry; a word laid (cut out of TagL) -/
import Derived.Test.YtpfbfhigelbfcaaGreatSn1
import Derived.Test.YtpfbfhigelbfcaaGreatSn7
import Derived.Test.YtpfbfhigelbfcaaGreatSn10
import Derived.Test.YtpfbfhigelbfcaaGreatSn11
import Derived.Test.YtpfbfhigelbfcaaGreatSn16
import Derived.Test.YtpfbfhigelbfcaaGreatSn18
set_option linter.unusedSimpArgs false
set_option linter.unusedVariables false
namespace Go.Proofs.YtpfbfhigelbfcaaGreat
open Go.RowKit Go.Lib
theorem namesT_take {L : List Pt} {k : Nat} {x : Pt} (h : L[k]? = some x) : namesT (L.take (k + 1)) = if x.gone = false then namesT (L.take k) ++ [x.dg] else namesT (L.take k) := by
  obtain ⟨h2, h3⟩ := List.getElem?_eq_some_iff.1 h
  unfold namesT
  rw [List.take_succ_eq_append_getElem h2, h3, List.filter_append, List.map_append]
  by_cases h1 : x.gone = false
  · rw [List.filter_cons_of_pos (by simp [h1]), if_pos h1]; rfl
  · rw [List.filter_cons_of_neg (by simpa using h1), if_neg h1]; simp
theorem namesT_le (L : List Pt) (k : Nat) : (namesT (L.take k)).length ≤ k := by
  unfold namesT
  rw [List.length_map]
  have h1 := List.length_filter_le (fun e : Pt => !e.gone) (L.take k)
  rw [List.length_take] at h1
  omega
section
variable (Ix : World → (Nat → Prop) → (Nat → Prop) → Value → List Pt → Prop)
/-- a table that is made -/
def NewGQ (w : World) (N : Nat → Prop) (L : List Pt) (e : Ending) (w' : World) : Prop := ∃ v S F, e = .returned v ∧ Ix w' S F v (newT L) ∧ (∀ b, S b → w.heap.size ≤ b) ∧ (∀ b, F b → N b ∨ w.heap.size ≤ b) ∧ Below w.heap.size w w'
/-- a table that is turned -/
def OpGQ (w : World) (S F : Nat → Prop) (v : Value) (L : List Pt) (e : Ending) (w' : World) : Prop := ∃ S' F', e = .returned (.tuple #[]) ∧ Ix w' S' F' v L ∧ Chg S w w' ∧ (∀ b, S' b → S b ∨ w.heap.size ≤ b) ∧ (∀ b, F' b → F b ∨ w.heap.size ≤ b)
end
def GetGQ (w : World) (F : Nat → Prop) (r : Pt × Bool) (e : Ending) (w' : World) : Prop := ∃ s, e = .returned (.tuple #[tnV r.1 s, .bool r.2]) ∧ Is w' s r.1.ins ∧ (r.1.ins ≠ [] → ∀ b, s.ownBlock = some b → F b ∨ w.heap.size ≤ b) ∧ Below w.heap.size w w'
def RowGQ (w : World) (F : Nat → Prop) (L : List Pt) (e : Ending) (w' : World) : Prop := ∃ p n c Ls N, e = .returned (.slice p n c) ∧ ptL Ls = L ∧ ReT w' N p n Ls ∧ (∀ b, N b → F b ∨ w.heap.size ≤ b) ∧ (p = none → c = 0) ∧ n ≤ c ∧ c ≤ maxLen ∧ Below w.heap.size w w'
def ListGQ (w : World) (F : Nat → Prop) (L : List ByteArray) (e : Ending) (w' : World) : Prop := ∃ p n c, e = .returned (.slice p n c) ∧ Gs encS w' p n L ∧ (n ≠ 0 → ∀ b off, p = some ⟨b, off, none⟩ → F b ∨ w.heap.size ≤ b) ∧ (p = none → c = 0) ∧ n ≤ c ∧ c ≤ maxLen ∧ Below w.heap.size w w'
def NamesGQ (w : World) (L : List (List Int)) (e : Ending) (w' : World) : Prop := ∃ p n c, e = .returned (.slice p n c) ∧ Ds w' p n L ∧ n ≤ maxLen ∧ Below w.heap.size w w'
/-- Ix w S F v L: in w, v is a table that holds L; its own blocks are those of S, what it reads besides lies in those of F -/
structure TagOk (Ix : World → (Nat → Prop) → (Nat → Prop) → Value → List Pt → Prop) : Prop where
  keep : ∀ {w w' : World} {S F : Nat → Prop} {v : Value} {L : List Pt}, Ix w S F v L → (∀ b, S b ∨ F b → w'.heap[b]? = w.heap[b]?) → w.heap.size ≤ w'.heap.size → Ix w' S F v L
  lt : ∀ {w : World} {S F : Nat → Prop} {v : Value} {L : List Pt}, Ix w S F v L → ∀ b, S b ∨ F b → b < w.heap.size
  dis : ∀ {w : World} {S F : Nat → Prop} {v : Value} {L : List Pt}, Ix w S F v L → ∀ b, S b → ¬ F b
  ok : ∀ {w : World} {S F : Nat → Prop} {v : Value} {L : List Pt}, Ix w S F v L → rowT L ∧ ∀ x ∈ L, dok x.dg
  new : ∀ {w : World} {N : Nat → Prop} {p : Option Addr} {n c : Nat} {Ls : List Tx}, ReT w N p n Ls → (p = none → c = 0) → n ≤ c → c ≤ maxLen → n ≤ 1048576 → insLeT (ptL Ls) 2097151 → Calls Tryz.prog 41 #[.slice p n c] w fun e w' => NewGQ Ix w N (ptL Ls) e w'
  apply : ∀ {w : World} {S F : Nat → Prop} {v : Value} {L : List Pt} (x : Wq), Ix w S F v L → dok x.dg → L.length ≤ 1048576 → insLeT L 2097151 → Calls Tryz.prog 46 #[v, x.v] w fun e w' => OpGQ Ix w S F v (applyT L x) e w'
  keepS : ∀ {w : World} {S F : Nat → Prop} {v u : Value} {L : List Pt} {B : List Int}, Ix w S F v L → Is w u B → (B ≠ [] → ∀ b, u.ownBlock = some b → ¬ S b) → B.length ≤ 2097152 → L.length ≤ 1048576 → insLeT L 2097151 → Calls Tryz.prog 50 #[v, u] w fun e w' => OpGQ Ix w S F v (keepTs L B) e w'
  get : ∀ {w : World} {S F : Nat → Prop} {v : Value} {L : List Pt} (s : ByteArray), Ix w S F v L → Calls Tryz.prog 65 #[v, .string s] w fun e w' => GetGQ w F (getTR L s) e w'
  row : ∀ {w : World} {S F : Nat → Prop} {v : Value} {L : List Pt}, Ix w S F v L → L.length ≤ 1048576 → Calls Tryz.prog 55 #[v] w fun e w' => RowGQ w F L e w'
  count : ∀ {w : World} {S F : Nat → Prop} {v : Value} {L : List Pt}, Ix w S F v L → L.length ≤ 1048576 → Calls Tryz.prog 67 #[v] w fun e w' => e = .returned (.int .i64 ((namesT L).length : Int)) ∧ Below w.heap.size w w'
  list : ∀ {w : World} {S F : Nat → Prop} {v : Value} {L : List Pt} (s : ByteArray) (n : Int), Ix w S F v L → L.length ≤ 1048576 → -9223372036854775808 ≤ n → n ≤ 9223372036854775807 → Calls Tryz.prog 70 #[v, .string s, .int .i64 n] w fun e w' => ListGQ w F (listT L s n) e w'
  names : ∀ {w : World} {S F : Nat → Prop} {v : Value} {L : List Pt}, Ix w S F v L → L.length ≤ 1048576 → Calls Tryz.prog 69 #[v] w fun e w' => NamesGQ w (namesT L) e w'
theorem TagOk.later {Ix : World → (Nat → Prop) → (Nat → Prop) → Value → List Pt → Prop} (hT : TagOk Ix) {w w' : World} {S F : Nat → Prop} {v : Value} {L : List Pt} (h : Ix w S F v L) (hb : Below w.heap.size w w') : Ix w' S F v L :=
  hT.keep h (fun b hb2 => hb.block b (hT.lt h b hb2)) hb.size
theorem ReT.none (w : World) : ReT w (fun _ => False) none 0 [] := ⟨Gs.empty _ _ _, fun h => absurd rfl h, (fun x h => by cases h), (fun x h => by cases h), (fun x h => by cases h), fun b h => h.elim⟩
end Go.Proofs.YtpfbfhigelbfcaaGreat

