/- The reference of layer 21: List, Names, Texts; Layer 21: what the laws want of package tags; Layer 21, the laws: lives, under what is said of package tags; Layer 21, the law: TagsNone, under what is said of a nil table. (gen_tagn.py); Layer 21: deeds in memory; a table and the reference's row between deeds. (gen_tagd.py); Layer 21, the law: TagsDoes, under what is said of package tags. (gen_tagd.p -/
import Derived.Test.YtieednadbcghjaaTg1
import Derived.Test.YtieednadbcghjaaTg6
import Derived.Test.YtieednadbcghjaaTg7
import Derived.Test.YtieednadbcghjaaTg9
import Derived.Test.YtieednadbcghjaaTg10
import Derived.Test.YtieednadbcghjaaTg16
import Derived.Test.YtieednadbcghjaaTg17
import Derived.Test.YtieednadbcghjaaTg19
set_option linter.unusedSimpArgs false
set_option linter.unusedVariables false
namespace Go.Proofs.Ytieednadbcghjaa
set_option linter.unusedVariables false
open Go.RowKit Go.Lib

theorem Gs.str {w : World} {p : Option Addr} {n : Nat} {L : List ByteArray} (h : Gs encS w p n L) (j : Nat) (hj : j < n) : ∃ b off, p = some ⟨b, off, none⟩ ∧ w.cell? ⟨b, off + j, none⟩ = some (.string (L.getD j ⟨#[]⟩)) := by
  obtain ⟨b, off, hp, hc⟩ := h.ptr j hj
  have := hc 0 _ rfl
  rw [show encS.k = 1 from rfl, Nat.mul_one, Nat.add_zero] at this
  exact ⟨b, off, hp, this⟩
theorem listT_take {L : List Pt} {k : Nat} {x : Pt} (h : L[k]? = some x) (a : ByteArray) (N : Int) : listT (L.take (k + 1)) a N = if x.gone = false ∧ nlt a x.nm = true ∧ ((listT (L.take k) a N).length : Int) < N then listT (L.take k) a N ++ [x.nm] else listT (L.take k) a N := by
  obtain ⟨h2, h3⟩ := List.getElem?_eq_some_iff.1 h
  unfold listT
  rw [List.take_succ_eq_append_getElem h2, h3, List.filter_append, List.map_append]
  generalize (((L.take k).filter fun e => !e.gone && nlt a e.nm).map (·.nm)) = F
  by_cases h1 : x.gone = false ∧ nlt a x.nm = true
  · obtain ⟨h4, h5⟩ := h1
    rw [List.filter_cons_of_pos (by simp [h4, h5]), List.filter_nil, List.map_cons, List.map_nil]
    by_cases h6 : F.length < N.toNat
    · rw [if_pos ⟨h4, h5, by rw [List.length_take]; omega⟩, List.take_of_length_le (l := F) (by omega), List.take_of_length_le (by rw [List.length_append, List.length_singleton]; omega)]
    · rw [if_neg (fun h => by have h7 := h.2.2; rw [List.length_take] at h7; omega), List.take_append_of_le_length (by omega)]
  · rw [List.filter_cons_of_neg (by simpa using h1), List.filter_nil, List.map_nil, List.append_nil, if_neg (fun h => h1 ⟨h.1, h.2.1⟩)]
theorem listT_le (L : List Pt) (a : ByteArray) (N : Int) (k : Nat) : (listT (L.take k) a N).length ≤ k := by
  unfold listT
  rw [List.length_take, List.length_map]
  have h1 := List.length_filter_le (fun e : Pt => !e.gone && nlt a e.nm) (L.take k)
  rw [List.length_take] at h1
  omega
set_option maxRecDepth 100000 in
set_option maxHeartbeats 2000000 in
theorem rlist21_any (p : Option Addr) (n c : Nat) (L : List Tx) (a : ByteArray) (N : Int) (w : World) (h : Gs encTn w p n L) (hn : n ≤ 2097152) :
    Calls Try.prog 19 #[.slice p n c, .string a, .int .i64 N] w fun e w' => ∃ v, e = .returned v ∧ Gw encS w' w.heap.size v (listT (ptL L) a N) ∧ Below w.heap.size w w' := by
  have H := Lib.hid h
  have HLL : Hid ((ptL L).length = n) := Lib.hid (by rw [ptL_length, h.len])
  clear h
  go_enter Try.func19, Try.ntmps19
  go_wp2
  go_loopw [7, 8] (fun v j wr => ∃ (k : Nat) (q : Option Addr) (m d : Nat), k ≤ n ∧ j = .int .i64 (k : Int) ∧ v = .slice q m d ∧ Hid (Gw encS wr w.heap.size (.slice q m d) (listT ((ptL L).take k) a N)) ∧ Hid (Below w.heap.size w wr)) (fun _ j _ => n - (intOf j).toNat)
  case atStart => exact ⟨0, none, 0, 0, by omega, rfl, rfl, Lib.hid (by rw [show listT ((ptL L).take 0) a N = [] by simp [listT]]; exact Gw.nil _ _ _), Lib.hid (Below.refl _ _)⟩
  case round =>
    obtain ⟨k, q, m, d, hkn, rfl, rfl, HO, HB⟩ := hrel
    by_cases hlt : k < n
    · obtain ⟨b1, off, y, rfl, hy1, hy3, hr⟩ := (H.out.later HB.out).tn k hlt
      obtain ⟨c0, c1⟩ := tn_cells hr
      have HT := Lib.hid (listT_take (ptL_get hy1) a N)
      have HOL : Hid ((listT ((ptL L).take k) a N).length + 1 ≤ 2097216) := Lib.hid (by have h1 := listT_le (ptL L) a N k; omega)
      have hml := HO.out.len
      have hki : (k : Int) < (n : Int) := by omega
      have hk0 : (0 : Int) ≤ (k : Int) := by omega
      obtain ⟨ny, hny⟩ : ∃ s, y.e.nm = s := ⟨_, rfl⟩
      obtain ⟨g, hg⟩ : ∃ s, y.e.gone = s := ⟨_, rfl⟩
      rw [hny] at c0 HT
      rw [hg] at c1 HT
      rw [hml] at HT
      obtain ⟨O, hO⟩ : ∃ O, listT ((ptL L).take k) a N = O := ⟨_, rfl⟩
      rw [hO] at HT HO HOL
      unfold nlt at HT
      clear hr hy1 hy3 hny hg hml hO
      by_cases hc : g = false ∧ Op.bytesLess a.toList ny.toList = true ∧ (m : Int) < N
      · rw [if_pos hc] at HT
        obtain ⟨rfl, h2, h3⟩ := hc
        go_wp2_with (refine wpList_append_gen encS rfl _ _ 51 rfl Try.underlying51 (.string ⟨#[]⟩) 16 infoS rfl (by decide) w.heap.size _ O rfl (HO.out.alloc (.cells #[.string ny] 9)) _ 1 1 [ny] rfl (Gs.one encS _ ny _ rfl _ _) (fun h => by cases h) HOL.out (by have h1 := HB.out.size; rw [World.size_alloc]; omega) ?_; intro v8 w8 ho8 hg8; have HB8 := Lib.hid (below_new_gw (HB.out.alloc HB.out.size _) (HO.out.alloc _) hg8 (by have h1 := HB.out.size; rw [World.size_alloc]; omega)); rw [← HT.out] at ho8; obtain ⟨p8, c8, hv8, _⟩ := ho8.open; obtain ⟨m8, hm8⟩ : ∃ x, List.length (listT ((ptL L).take (k + 1)) a N) = x := ⟨_, rfl⟩; rw [hm8] at hv8; subst hv8; have HO8 := Lib.hid ho8; clear ho8 hg8 hm8)
        exact ⟨⟨k + 1, p8, m8, c8, by omega, by go_num, rfl, HO8, HB8⟩, by simp [intOf] <;> omega⟩
      · rw [if_neg hc] at HT
        rw [← HT.out] at HO
        cases g with
        | true =>
          clear hc
          go_wp2
          exact ⟨⟨k + 1, q, m, d, by omega, by go_num, rfl, HO, HB⟩, by simp [intOf] <;> omega⟩
        | false =>
          cases h2 : Op.bytesLess a.toList ny.toList with
          | false =>
            clear hc
            go_wp2
            exact ⟨⟨k + 1, q, m, d, by omega, by go_num, rfl, HO, HB⟩, by simp [intOf] <;> omega⟩
          | true =>
            have h3 : ¬ (m : Int) < N := fun h => hc ⟨rfl, h2, h⟩
            clear hc
            go_wp2
            exact ⟨⟨k + 1, q, m, d, by omega, by go_num, rfl, HO, HB⟩, by simp [intOf] <;> omega⟩
    · obtain rfl : k = n := by omega
      have HF : Hid ((ptL L).take k = ptL L) := Lib.hid (List.take_of_length_le (by rw [HLL.out]; exact Nat.le_refl _))
      rw [HF.out] at HO
      go_wp2
      go_ret
      exact ⟨_, rfl, HO.out, HB.out⟩
theorem namesT_take {L : List Pt} {k : Nat} {x : Pt} (h : L[k]? = some x) : namesT (L.take (k + 1)) = if x.gone = false then namesT (L.take k) ++ [x.dg] else namesT (L.take k) := by
  obtain ⟨h2, h3⟩ := List.getElem?_eq_some_iff.1 h
  unfold namesT
  rw [List.take_succ_eq_append_getElem h2, h3, List.filter_append, List.map_append]
  by_cases h1 : x.gone = false
  · rw [List.filter_cons_of_pos (by simp [h1]), if_pos h1]; rfl
  · rw [List.filter_cons_of_neg (by simpa using h1), if_neg h1]; simp
theorem namesT_le (L : List Pt) (k : Nat) : (namesT (L.take k)).length ≤ k := by
  unfold namesT
  rw [List.length_map]
  have h1 := List.length_filter_le (fun e : Pt => !e.gone) (L.take k)
  rw [List.length_take] at h1
  omega
set_option maxRecDepth 100000 in
set_option maxHeartbeats 2000000 in
theorem rnames21_any (p : Option Addr) (n c : Nat) (L : List Tx) (w : World) (h : Gs encTn w p n L) (hk : ∀ x ∈ L, dok x.e.dg) (hn : n ≤ 2097152) :
    Calls Try.prog 16 #[.slice p n c] w fun e w' => ∃ v, e = .returned v ∧ Od w' w.heap.size v (namesT (ptL L)) ∧ Below w.heap.size w w' := by
  have H := Lib.hid h
  have HK := Lib.hid hk
  have HLL : Hid ((ptL L).length = n) := Lib.hid (by rw [ptL_length, h.len])
  clear h hk
  go_enter Try.func16, Try.ntmps16
  go_wp2
  go_loopw [3, 4] (fun v j wr => ∃ (k : Nat) (q : Option Addr) (m d : Nat), k ≤ n ∧ j = .int .i64 (k : Int) ∧ v = .slice q m d ∧ Hid (Od wr w.heap.size (.slice q m d) (namesT ((ptL L).take k))) ∧ Hid (Below w.heap.size w wr)) (fun _ j _ => n - (intOf j).toNat)
  case atStart => exact ⟨0, none, 0, 0, by omega, rfl, rfl, Lib.hid (by rw [show namesT ((ptL L).take 0) = [] by simp [namesT]]; exact Od.nil _ _), Lib.hid (Below.refl _ _)⟩
  case round =>
    obtain ⟨k, q, m, d, hkn, rfl, rfl, HO, HB⟩ := hrel
    by_cases hlt : k < n
    · obtain ⟨b1, off, y, rfl, hy1, hy3, hr⟩ := (H.out.later HB.out).tn k hlt
      obtain ⟨_, c1⟩ := tn_cells hr
      have HLD := Lib.hid (tn_dig hr)
      have HT := Lib.hid (namesT_take (ptL_get hy1))
      have HDK := Lib.hid (HK.out y hy3)
      have HLK : Hid ((namesT ((ptL L).take k)).length ≤ 2097152) := Lib.hid (by have h1 := namesT_le (ptL L) k; omega)
      have hki : (k : Int) < (n : Int) := by omega
      have hk0 : (0 : Int) ≤ (k : Int) := by omega
      obtain ⟨d1, hd1⟩ : ∃ s, y.e.dg = s := ⟨_, rfl⟩
      obtain ⟨g, hg⟩ : ∃ s, y.e.gone = s := ⟨_, rfl⟩
      rw [hd1] at HLD HT HDK
      rw [hg] at c1 HT
      clear hr hy1 hy3 hd1 hg
      cases g with
      | false =>
        rw [if_pos rfl] at HT
        go_wp2_with (first
          | (refine wpList_ld rfl 29 _ rfl _ rfl _ HLD.out ?_)
          | (refine wpList_build_dig rfl 48 22 rfl Try.underlying48 info24 d1 HDK.out.1 rfl ?_)
          | (refine wpList_append_digs rfl _ _ 48 rfl Try.underlying48 info24 w.heap.size _ _ rfl (HO.out.alloc _) _ 1 1 [d1] rfl (Od.one wr w.heap.size d1 HDK.out HB.out.size).ds (fun h => by cases h) (by have := HLK.out; omega) (by have := HB.out.size; rw [World.size_alloc]; omega) ?_; intro v8 w8 ho8 hg8; have HB8 := Lib.hid (below_new_od (HB.out.alloc HB.out.size _) (HO.out.alloc _) hg8 (by have := HB.out.size; rw [World.size_alloc]; omega)); rw [← HT.out] at ho8; obtain ⟨p8, c8, hv8, _⟩ := ho8.open; obtain ⟨mm8, hmm8⟩ : ∃ x, (namesT ((ptL L).take (k + 1))).length = x := ⟨_, rfl⟩; rw [hmm8] at hv8; subst hv8; have HO8 := Lib.hid ho8; clear ho8 hg8 hmm8))
        exact ⟨⟨k + 1, p8, mm8, c8, by omega, by go_num, rfl, HO8, HB8⟩, by simp [intOf] <;> omega⟩
      | true =>
        rw [if_neg (by simp)] at HT
        rw [← HT.out] at HO
        go_wp2
        exact ⟨⟨k + 1, q, m, d, by omega, by go_num, rfl, HO, HB⟩, by simp [intOf] <;> omega⟩
    · obtain rfl : k = n := by omega
      have HF : Hid ((ptL L).take k = ptL L) := Lib.hid (List.take_of_length_le (by rw [HLL.out]; exact Nat.le_refl _))
      rw [HF.out] at HO
      go_wp2
      go_ret
      exact ⟨_, rfl, HO.out, HB.out⟩
set_option maxRecDepth 100000 in
theorem rtexts21_any (p q : Option Addr) (n c m d : Nat) (L : List ByteArray) (w : World) (h1 : Gs encS w p n L) (h2 : Gs encS w q m L) (hn : n ≤ 2097216) :
    Calls Try.prog 17 #[.slice p n c, .slice q m d] w fun e w' => e = .returned (.bool true) ∧ ∃ q, w' = w.drewN q := by
  obtain rfl : n = m := by rw [← h1.1, ← h2.1]
  have H1 := Lib.hid h1
  have H2 := Lib.hid h2
  have e1 : (((n : Nat) : Int) != (n : Int)) = false := by simp
  clear h1 h2
  go_enter Try.func17, Try.ntmps17
  go_wp2
  go_loopw [5] (fun i wr => ∃ k : Nat, k ≤ n ∧ i = .int .i64 k ∧ ∃ q, wr = w.drewN q) (fun i _ => n - (intOf i).toNat)
  case atStart => exact ⟨0, Nat.zero_le _, rfl, 0, rfl⟩
  case round =>
    obtain ⟨k, hk, rfl, nw, rfl⟩ := hrel
    by_cases hlt : k < n
    · obtain ⟨b, off, rfl, c0⟩ := H1.out.str k hlt
      obtain ⟨b2, off2, rfl, d0⟩ := H2.out.str k hlt
      have hkn : (k : Int) < (n : Int) := by omega
      have hk0 : (0 : Int) ≤ (k : Int) := by omega
      generalize L.getD k ⟨#[]⟩ = y at *
      have heq : (y.toList == y.toList) = true := by simp
      go_wp2
      go_quiet (fail)
      go_wp2
      exact ⟨⟨k + 1, by omega, by go_num, _, rfl⟩, by simp [intOf] <;> omega⟩
    · obtain rfl : k = n := by omega
      go_wp2
      go_ret
      exact ⟨rfl, nw, rfl⟩
end Go.Proofs.Ytieednadbcghjaa

namespace Go.Proofs.Ytieednadbcghjaa
set_option linter.unusedVariables false
open Go.RowKit Go.Lib

section
variable (Ix : World → (Nat → Prop) → (Nat → Prop) → Value → List Pt → Prop)
/-- a table that is made -/
def NewGQ (w : World) (N : Nat → Prop) (L : List Pt) (e : Ending) (w' : World) : Prop := ∃ v S F, e = .returned v ∧ Ix w' S F v (newT L) ∧ (∀ b, S b → w.heap.size ≤ b) ∧ (∀ b, F b → N b ∨ w.heap.size ≤ b) ∧ Below w.heap.size w w'
/-- a table that is turned -/
def OpGQ (w : World) (S F : Nat → Prop) (v : Value) (L : List Pt) (e : Ending) (w' : World) : Prop := ∃ S' F', e = .returned (.tuple #[]) ∧ Ix w' S' F' v L ∧ Chg S w w' ∧ (∀ b, S' b → S b ∨ w.heap.size ≤ b) ∧ (∀ b, F' b → F b ∨ w.heap.size ≤ b)
end
def GetGQ (w : World) (F : Nat → Prop) (r : Pt × Bool) (e : Ending) (w' : World) : Prop := ∃ s, e = .returned (.tuple #[tnV r.1 s, .bool r.2]) ∧ Is w' s r.1.ins ∧ (r.1.ins ≠ [] → ∀ b, s.ownBlock = some b → F b ∨ w.heap.size ≤ b) ∧ Below w.heap.size w w'
def RowGQ (w : World) (F : Nat → Prop) (L : List Pt) (e : Ending) (w' : World) : Prop := ∃ p n c Ls N, e = .returned (.slice p n c) ∧ ptL Ls = L ∧ ReT w' N p n Ls ∧ (∀ b, N b → F b ∨ w.heap.size ≤ b) ∧ (p = none → c = 0) ∧ n ≤ c ∧ c ≤ maxLen ∧ Below w.heap.size w w'
def ListGQ (w : World) (F : Nat → Prop) (L : List ByteArray) (e : Ending) (w' : World) : Prop := ∃ p n c, e = .returned (.slice p n c) ∧ Gs encS w' p n L ∧ (n ≠ 0 → ∀ b off, p = some ⟨b, off, none⟩ → F b ∨ w.heap.size ≤ b) ∧ (p = none → c = 0) ∧ n ≤ c ∧ c ≤ maxLen ∧ Below w.heap.size w w'
def NamesGQ (w : World) (L : List (List Int)) (e : Ending) (w' : World) : Prop := ∃ p n c, e = .returned (.slice p n c) ∧ Ds w' p n L ∧ n ≤ maxLen ∧ Below w.heap.size w w'
/-- Ix w S F v L: in w, v is a table that holds L; its own blocks are those of S, what it reads besides lies in those of F -/
structure TagOk (Ix : World → (Nat → Prop) → (Nat → Prop) → Value → List Pt → Prop) : Prop where
  keep : ∀ {w w' : World} {S F : Nat → Prop} {v : Value} {L : List Pt}, Ix w S F v L → (∀ b, S b ∨ F b → w'.heap[b]? = w.heap[b]?) → w.heap.size ≤ w'.heap.size → Ix w' S F v L
  lt : ∀ {w : World} {S F : Nat → Prop} {v : Value} {L : List Pt}, Ix w S F v L → ∀ b, S b ∨ F b → b < w.heap.size
  dis : ∀ {w : World} {S F : Nat → Prop} {v : Value} {L : List Pt}, Ix w S F v L → ∀ b, S b → ¬ F b
  ok : ∀ {w : World} {S F : Nat → Prop} {v : Value} {L : List Pt}, Ix w S F v L → rowT L ∧ ∀ x ∈ L, dok x.dg
  new : ∀ {w : World} {N : Nat → Prop} {p : Option Addr} {n c : Nat} {Ls : List Tx}, ReT w N p n Ls → (p = none → c = 0) → n ≤ c → c ≤ maxLen → n ≤ 1048576 → insLeT (ptL Ls) 2097151 → Calls Try.prog 6 #[.slice p n c] w fun e w' => NewGQ Ix w N (ptL Ls) e w'
  apply : ∀ {w : World} {S F : Nat → Prop} {v : Value} {L : List Pt} (x : Wq), Ix w S F v L → dok x.dg → L.length ≤ 1048576 → insLeT L 2097151 → Calls Try.prog 8 #[v, x.v] w fun e w' => OpGQ Ix w S F v (applyT L x) e w'
  keepS : ∀ {w : World} {S F : Nat → Prop} {v u : Value} {L : List Pt} {B : List Int}, Ix w S F v L → Is w u B → (B ≠ [] → ∀ b, u.ownBlock = some b → ¬ S b) → B.length ≤ 2097152 → L.length ≤ 1048576 → insLeT L 2097151 → Calls Try.prog 10 #[v, u] w fun e w' => OpGQ Ix w S F v (keepTs L B) e w'
  get : ∀ {w : World} {S F : Nat → Prop} {v : Value} {L : List Pt} (s : ByteArray), Ix w S F v L → Calls Try.prog 12 #[v, .string s] w fun e w' => GetGQ w F (getTR L s) e w'
  row : ∀ {w : World} {S F : Nat → Prop} {v : Value} {L : List Pt}, Ix w S F v L → L.length ≤ 1048576 → Calls Try.prog 23 #[v] w fun e w' => RowGQ w F L e w'
  count : ∀ {w : World} {S F : Nat → Prop} {v : Value} {L : List Pt}, Ix w S F v L → L.length ≤ 1048576 → Calls Try.prog 15 #[v] w fun e w' => e = .returned (.int .i64 ((namesT L).length : Int)) ∧ Below w.heap.size w w'
  list : ∀ {w : World} {S F : Nat → Prop} {v : Value} {L : List Pt} (s : ByteArray) (n : Int), Ix w S F v L → L.length ≤ 1048576 → -9223372036854775808 ≤ n → n ≤ 9223372036854775807 → Calls Try.prog 18 #[v, .string s, .int .i64 n] w fun e w' => ListGQ w F (listT L s n) e w'
  names : ∀ {w : World} {S F : Nat → Prop} {v : Value} {L : List Pt}, Ix w S F v L → L.length ≤ 1048576 → Calls Try.prog 21 #[v] w fun e w' => NamesGQ w (namesT L) e w'
theorem TagOk.later {Ix : World → (Nat → Prop) → (Nat → Prop) → Value → List Pt → Prop} (hT : TagOk Ix) {w w' : World} {S F : Nat → Prop} {v : Value} {L : List Pt} (h : Ix w S F v L) (hb : Below w.heap.size w w') : Ix w' S F v L :=
  hT.keep h (fun b hb2 => hb.block b (hT.lt h b hb2)) hb.size
def nmV : ByteArray := ⟨#[118, 49]⟩
def wdT : Wq := ⟨3, 0, lvS, nmV, 0, 1, 0, 0⟩
def wdU : Wq := { wdT with k := 4 }
def ptVt : Pt := ⟨nmV, lvS, false, 1, 0, 0, [1]⟩
def ptUt : Pt := ⟨nmV, dz32, true, 1, 0, 0, [1]⟩
theorem built_wdT : Try.prog.built 33 [(0, .int .i64 3), (2, .agg (bcs lvS)), (3, .string nmV), (5, .agg (lcA 1 0 0))] = some (mixC wdT.a wdT.dg wdT.t) := by kernel_rfl
theorem lvAt : applyT (newT (ptL [])) wdT = [ptVt] := rfl
theorem getV : getTR [ptVt] nmV = (ptVt, true) := by
  unfold getTR getT
  rw [if_pos (show ptVt.nm = nmV from rfl)]
theorem lvCt : applyT [ptVt] wdU = [ptUt] := by
  have h1 : (getTR [ptVt] wdU.nm).1 = ptVt := by rw [show wdU.nm = nmV from rfl, getV]
  have h2 : (getTR [ptVt] wdU.nm).2 = true := by rw [show wdU.nm = nmV from rfl, getV]
  unfold applyT
  rw [if_neg (by decide), if_pos ⟨rfl, h2⟩, h1]
  have h3 : untT ptVt wdU = ptUt := rfl
  rw [h3]
  unfold setT setTB
  have h4 : nlt ptVt.nm ptUt.nm = false := nlt_self _
  rw [h4]
  simp [show ptVt.nm = ptUt.nm from rfl, setTB]
theorem lvL : listT [ptVt] ⟨#[]⟩ 5 = [nmV] := by
  unfold listT
  rw [List.filter_cons_of_pos (by rw [show ptVt.gone = false from rfl, show ptVt.nm = nmV from rfl, nlt_nil (by decide)]; rfl)]
  rfl
theorem lvNt : (namesT [ptUt]).length = 0 := rfl
end Go.Proofs.Ytieednadbcghjaa

namespace Go.Proofs.Ytieednadbcghjaa
set_option linter.unusedVariables false
open Go.RowKit Go.Lib

theorem ReT.none (w : World) : ReT w (fun _ => False) none 0 [] := ⟨Gs.empty _ _ _, fun h => absurd rfl h, (fun x h => by cases h), (fun x h => by cases h), (fun x h => by cases h), fun b h => h.elim⟩
theorem wd_layT {w W : World} {x : Wq} {b : Nat} (hb : w.heap.size = b) (h : (w.alloc (.cells (mixC wq0.a wq0.dg wq0.t) 33)).setRow b (mixC x.a x.dg x.t) = W) : Wm W b x ∧ Below w.heap.size w W := by
  subst hb
  rw [← h]
  exact ⟨Mx.row (show Wm (w.alloc (.cells (mixC wq0.a wq0.dg wq0.t) 33)) w.heap.size wq0 from heap_alloc_new _ _), below_setRow8 ((Below.refl _ _).alloc (Nat.le_refl _) _) _ _ (Nat.le_refl _)⟩
theorem ins1T (e : Pt) (k : Nat) (h : e.ins.length ≤ k) : insLeT [e] k := fun x hx => by
  rw [List.mem_singleton] at hx
  rw [hx]
  exact h
set_option maxRecDepth 100000 in
set_option maxHeartbeats 2000000 in
theorem lives21_any {Ix : World → (Nat → Prop) → (Nat → Prop) → Value → List Pt → Prop} (hT : TagOk Ix) (w : World) : Calls Try.prog 24 #[] w fun e w' => e = .returned (.bool true) ∧ Below w.heap.size w w' := by
  have HT := Lib.hid hT
  have HNW := Lib.hid (hT.new (ReT.none w) (c := 0) (fun _ => rfl) (Nat.le_refl _) (by unfold maxLen; decide) (by decide) (fun x h => by cases h))
  clear hT
  go_enter Try.func24, Try.ntmps24
  go_upto_region 2 with (go_at_call 6; refine HNW.out.mono ?_; rintro e w1 ⟨v, S, F, rfl, hx1, hs1, hf1, hb1⟩)
  have HX1 := Lib.hid hx1
  have HS1 := Lib.hid hs1
  have HB1 := Lib.hid hb1
  clear hx1 hs1 hf1 hb1
  go_upto_region 3 with (first
    | (refine wpList_build_is rfl 29 _ rfl (bcs lvS) ?_ ?_; focus (first | exact built_dg1 | kernel_rfl))
    | (refine wpList_build_is rfl 31 _ rfl (lcA 1 0 0) ?_ ?_; focus (first | exact built_lc 1 | kernel_rfl))
    | (refine wpList_build_is rfl 33 _ rfl (mixC wdT.a wdT.dg wdT.t) ?_ ?_; focus (first | exact built_wdT | kernel_rfl))
    | (refine wpList_store_row rfl 33 _ _ rfl w1.heap.size (mixC wdT.a wdT.dg wdT.t) rfl rfl 33 _ (heap_alloc_new _ _) (wdT.sizeOf rfl) rfl wdT.one ?_; generalize hw2 : World.setRow _ _ _ = w2))
  obtain ⟨hm2, hb2⟩ := wd_layT rfl hw2
  obtain ⟨gW, hgW⟩ : ∃ g, w1.heap.size = g := ⟨_, rfl⟩
  have HGS : Hid (¬ S gW ∧ ¬ F gW) := Lib.hid ⟨fun h => by have := HT.out.lt HX1.out gW (Or.inl h); omega, fun h => by have := HT.out.lt HX1.out gW (Or.inr h); omega⟩
  rw [hgW] at hm2
  rw [hgW]
  have HGL : Hid (gW < w2.heap.size) := Lib.hid (Mx.lt hm2)
  have HM2 := Lib.hid hm2
  have HX2 := Lib.hid (HT.out.later HX1.out hb2)
  have HB2 := Lib.hid (below_step HB1.out hb2)
  have HLW := Lib.hid (hm2.load rfl)
  have HGW : Hid (w.heap.size ≤ gW) := Lib.hid (by rw [← hgW]; exact HB1.out.size)
  have HAP := Lib.hid (HT.out.apply wdT HX2.out lvS_ok (by decide) (fun x h => by cases h))
  rw [lvAt] at HAP
  clear hm2 hb2 hw2 hgW
  go_upto_region 4 with (first
    | (refine wpList_ld rfl 33 _ rfl _ rfl _ HLW.out ?_)
    | (go_at_call 8; refine HAP.out.mono ?_; rintro e w3 ⟨S3, F3, rfl, hx3, hc3, hs3, hf3⟩))
  have HX3 := Lib.hid hx3
  have HM3 : Hid (Wm w3 gW wdT) := Lib.hid (Mx.keep HM2.out (hc3.block gW HGL.out HGS.out.1))
  have HB3 := Lib.hid (HB2.out.trans (hc3.below HS1.out HB2.out.size))
  have HG3 : Hid (¬ S3 gW ∧ ¬ F3 gW) := Lib.hid ⟨fun h => (hs3 gW h).elim HGS.out.1 (fun h => by have := HGL.out; omega), fun h => (hf3 gW h).elim HGS.out.2 (fun h => by have := HGL.out; omega)⟩
  have HS3 : Hid (∀ b, S3 b → w.heap.size ≤ b) := Lib.hid fun b hb => (hs3 b hb).elim (HS1.out b) (fun h => Nat.le_trans HB2.out.size h)
  have HLI := Lib.hid (HT.out.list ⟨#[]⟩ 5 hx3 (by decide) (by decide) (by decide))
  rw [lvL] at HLI
  have HDS3 := Lib.hid (HT.out.dis hx3)
  have HLT3 := Lib.hid (HT.out.lt hx3)
  have HGL3 : Hid (gW < w3.heap.size) := Lib.hid (Mx.lt HM3.out)
  clear hx3 hc3 hs3 hf3
  go_upto_region 5 with (go_at_call 18; refine HLI.out.mono ?_; rintro e w4 ⟨p4, n4, c4, rfl, hg4, hn4, _, _, _, hb4⟩)
  have hl4 : n4 = 1 := hg4.len.symm
  subst hl4
  obtain ⟨bL, oL, rfl, hcL⟩ := hg4.str 0 (by decide)
  have HBL := Lib.hid (hn4 (by decide) bL oL rfl)
  have HGS4 := Lib.hid hg4
  have HX4 := Lib.hid (HT.out.later HX3.out hb4)
  have HM4 := Lib.hid (HM3.out.later hb4)
  have HB4 := Lib.hid (below_step HB3.out hb4)
  obtain ⟨k0, _, _, _⟩ := HM4.out.cells5 rfl
  have kf := Mx.frozen HM4.out 0
  have HM5 : Hid (Wm (w4.setCell ⟨gW, 0, none⟩ (.int .i64 4)) gW wdU) := Lib.hid (Mx.setFirst HM4.out 0 (by decide) (.int .i64 4))
  have HX5 : Hid (Ix (w4.setCell ⟨gW, 0, none⟩ (.int .i64 4)) S3 F3 v [ptVt]) := Lib.hid (HT.out.keep HX4.out (fun b hb => heap_setCell_other w4 ⟨gW, 0, none⟩ b _ (fun e => by subst e; exact hb.elim HG3.out.1 HG3.out.2)) (by rw [World.size_setCell]; exact Nat.le_refl _))
  have HB5 : Hid (Below w.heap.size w (w4.setCell ⟨gW, 0, none⟩ (.int .i64 4))) := Lib.hid (HB4.out.setCell HGW.out _)
  have HGS5 : Hid (Gs encS (w4.setCell ⟨gW, 0, none⟩ (.int .i64 4)) (some ⟨bL, oL, none⟩) 1 [nmV]) := Lib.hid (HGS4.out.hold fun _ b off e => by
    simp only [Option.some.injEq, Addr.mk.injEq, and_true] at e
    obtain ⟨rfl, rfl⟩ := e
    refine heap_setCell_other w4 ⟨gW, 0, none⟩ bL _ (fun e => ?_)
    subst e
    exact HBL.out.elim HG3.out.2 (fun h => by have := HGL3.out; omega))
  have HSL : Hid (¬ S3 bL) := Lib.hid (fun h => HBL.out.elim (HDS3.out bL h) (fun h2 => by have := HLT3.out bL (Or.inl h); omega))
  have HLL4 : Hid (bL < (w4.setCell ⟨gW, 0, none⟩ (.int .i64 4)).heap.size) := Lib.hid (HGS5.out.block_lt (by decide))
  clear hb4 hg4 hn4 hcL
  go_upto_region 6 with fail
  generalize World.setCell _ _ _ = w5 at *
  have HLW5 := Lib.hid (HM5.out.load rfl)
  have HAP5 := Lib.hid (HT.out.apply wdU HX5.out lvS_ok (by decide) (ins1T _ _ (by decide)))
  rw [lvCt] at HAP5
  clear k0 kf
  go_upto_region 7 with (first
    | (refine wpList_ld rfl 33 _ rfl _ rfl _ HLW5.out ?_)
    | (go_at_call 8; refine HAP5.out.mono ?_; rintro e w6 ⟨S6, F6, rfl, hx6, hc6, hs6, hf6⟩))
  have HX6 := Lib.hid hx6
  have HB6 := Lib.hid (HB5.out.trans (hc6.below HS3.out HB5.out.size))
  have hgs6 : Gs encS w6 (some ⟨bL, oL, none⟩) 1 [nmV] := HGS5.out.hold fun _ b off e => by
    simp only [Option.some.injEq, Addr.mk.injEq, and_true] at e
    obtain ⟨rfl, rfl⟩ := e
    exact hc6.block bL HLL4.out HSL.out
  obtain ⟨bK, oK, eK, cL⟩ := hgs6.str 0 (by decide)
  simp only [Option.some.injEq, Addr.mk.injEq, and_true] at eK
  obtain ⟨rfl, rfl⟩ := eK
  have HCO6 := Lib.hid (HT.out.count hx6 (by decide))
  rw [lvNt] at HCO6
  have HRW := Lib.hid fun W (hW : Below w6.heap.size w6 W) => HT.out.row (HT.out.later HX6.out hW) (by decide)
  clear hx6 hc6 hs6 hf6 hgs6
  have cL' : w6.cell? ⟨bL, oL, none⟩ = some (.string ⟨#[118, 49]⟩) := cL
  clear cL
  have hb1 : ((⟨#[118, 49]⟩ : ByteArray).toList == ([118, 49] : List UInt8)) = true := by rw [bytes_toList]; rfl
  go_wp2_with (first
    | (go_at_call 15; refine HCO6.out.mono ?_; rintro e w7 ⟨rfl, hb7⟩; have HB7 := Lib.hid (below_step HB6.out hb7); have HRW7 := Lib.hid (HRW.out w7 hb7); clear hb7)
    | (go_at_call 23; refine HRW7.out.mono ?_; rintro e w8 ⟨p8, n8, c8, Ls8, N8, rfl, he8, hr8, hn8, hp8, hl8, hm8, hb8⟩; have hn1 : n8 = 1 := (hr8.gs.len.symm.trans (ptL_length Ls8).symm).trans (congrArg List.length he8); subst hn1; have HB8 := Lib.hid (below_step HB7.out hb8); clear he8 hr8 hn8 hp8 hl8 hm8 hb8))
  go_ret
  exact ⟨rfl, HB8.out⟩
end Go.Proofs.Ytieednadbcghjaa

namespace Go.Proofs.Ytieednadbcghjaa
set_option linter.unusedVariables false
open Go.RowKit Go.Lib

/-- the methods of a nil table -/
structure TagNil : Prop where
  apply : ∀ (w : World) (x : Wq), dok x.dg → Calls Try.prog 8 #[.pointer none, x.v] w fun e w' => e = .returned (.tuple #[]) ∧ Below w.heap.size w w'
  keepS : ∀ (w : World) (u : Value) (B : List Int), Is w u B → Calls Try.prog 10 #[.pointer none, u] w fun e w' => e = .returned (.tuple #[]) ∧ Below w.heap.size w w'
  get : ∀ (w : World) (s : ByteArray), Calls Try.prog 12 #[.pointer none, .string s] w fun e w' => e = .returned (.tuple #[tnV zeroT (.slice none 0 0), .bool false]) ∧ Below w.heap.size w w'
  count : ∀ (w : World), Calls Try.prog 15 #[.pointer none] w fun e w' => e = .returned (.int .i64 0) ∧ Below w.heap.size w w'
  list : ∀ (w : World) (s : ByteArray) (n : Int), Calls Try.prog 18 #[.pointer none, .string s, .int .i64 n] w fun e w' => e = .returned (.slice none 0 0) ∧ Below w.heap.size w w'
  names : ∀ (w : World), Calls Try.prog 21 #[.pointer none] w fun e w' => e = .returned (.slice none 0 0) ∧ Below w.heap.size w w'
  row : ∀ (w : World), Calls Try.prog 23 #[.pointer none] w fun e w' => e = .returned (.slice none 0 0) ∧ Below w.heap.size w w'
set_option maxRecDepth 100000 in
set_option maxHeartbeats 2000000 in
theorem tagsnone_any {Ix : World → (Nat → Prop) → (Nat → Prop) → Value → List Pt → Prop} (hT : TagOk Ix) (hN : TagNil) (x : Wq) (u : Value) (B : List Int) (w : World) (hx : dok x.dg) (hu : Is w u B) :
    Calls Try.prog 5 #[x.v, u] w fun e w' => e = .returned (.bool true) ∧ Below w.heap.size w w' := by
  obtain ⟨wB, hwB⟩ : ∃ W, w.alloc (.cells (mixC x.a x.dg x.t) 33) = W := ⟨_, rfl⟩
  have hbB : Below w.heap.size w wB := by rw [← hwB]; exact (Below.refl _ _).alloc (Nat.le_refl _) _
  have hmW : Wm wB w.heap.size x := by rw [← hwB]; exact heap_alloc_new _ _
  have HB := Lib.hid hbB
  have HLW := Lib.hid (hmW.load hx.1)
  have HDW := Lib.hid fun W (hW : Below wB.heap.size wB W) => ((hmW.later hW).cells5 hx.1).2.1
  have HA := Lib.hid (hN.apply wB x hx)
  have HK := Lib.hid fun W (hW : Below wB.heap.size wB W) => hN.keepS W u B ((hu.later hbB).later hW)
  have HG := Lib.hid fun W => hN.get W x.nm
  have HC := Lib.hid hN.count
  have HRW := Lib.hid hN.row
  have HLI := Lib.hid hN.list
  have HNA := Lib.hid hN.names
  have HS := Lib.hid fun W => rsamet19_any zeroT (.slice none 0 0) (.slice none 0 0) W (Is.nil W) (Is.nil W) dz32_ok (Nat.zero_le _)
  have HLV := Lib.hid fun W => lives21_any hT W
  obtain ⟨p, c, rfl, _⟩ := hu
  unfold Wq.v at *
  generalize mixC x.a x.dg x.t = MX at *
  clear hT hN hx hbB hmW
  go_enter Try.func5, Try.ntmps5
  go_upto_region 4 with (first
    | (refine wpList_ld rfl 33 _ rfl _ rfl _ HLW.out ?_)
    | (go_at_call 8; refine HA.out.mono ?_; rintro e w1 ⟨rfl, hb1⟩; have HB1 := Lib.hid hb1; clear hb1)
    | (go_at_call 10; refine (HK.out _ HB1.out).mono ?_; rintro e w2 ⟨rfl, hb2⟩; have HB2 := Lib.hid (below_step HB1.out hb2); clear hb2))
  have c34 := HDW.out _ HB2.out
  go_upto_region 5 with (first
    | (go_at_call 12; refine (HG.out _).mono ?_; rintro e w3 ⟨rfl, hb3⟩; have HB3 := Lib.hid (below_step HB2.out hb3); clear hb3)
    | (refine wpList_store_row rfl 42 _ _ rfl w3.heap.size (tnC zeroT (.slice none 0 0)) rfl rfl 42 _ (heap_alloc_new _ _) (tnC_sizeOf zeroT _ rfl) rfl (tnC_one _ _ _ _) ?_; generalize hw4 : World.setRow _ _ _ = w4))
  obtain ⟨he4, hb4⟩ := tnC_lay rfl hw4
  obtain ⟨g4, hg4⟩ : ∃ g, w3.heap.size = g := ⟨_, rfl⟩
  rw [hg4] at he4
  rw [hg4]
  have HB4 := Lib.hid (below_step HB3.out hb4)
  have HE4 := Lib.hid he4
  have HL5 := Lib.hid (he4.load rfl)
  have HB5 := HB4
  clear he4 hb4 hw4 hg4 c34
  have HBU := Lib.hid built_tn0
  go_wp2_with (first
    | (refine wpList_ld rfl 42 _ rfl _ rfl _ HL5.out ?_)
    | (refine wpList_build_is rfl 42 _ rfl (tnC zeroT (.slice none 0 0)) ?_ ?_; focus (first | (simp only [List.map_toArray, List.map_nil]; exact HBU.out) | (simp only [Array.map_empty]; exact HBU.out) | (simp; exact HBU.out)))
    | (go_at_call 14; refine (HS.out _).mono ?_; rintro e w6 ⟨rfl, hb6⟩; have HB6 := Lib.hid (below_step HB5.out hb6); clear hb6)
    | (go_at_call 15; refine (HC.out _).mono ?_; rintro e wc ⟨rfl, hbc⟩; have HBC := Lib.hid (below_step HB6.out hbc); clear hbc)
    | (go_at_call 23; refine (HRW.out _).mono ?_; rintro e wr ⟨rfl, hbr⟩; have HBR := Lib.hid (below_step HBC.out hbr); clear hbr)
    | (go_at_call 18; refine (HLI.out _ _ _).mono ?_; rintro e wl ⟨rfl, hbl⟩; have HBT := Lib.hid (below_step HBR.out hbl); clear hbl)
    | (go_at_call 21; refine (HNA.out _).mono ?_; rintro e w7 ⟨rfl, hb7⟩; have HB7 := Lib.hid (below_step HBT.out hb7); clear hb7)
    | (go_at_call 24; refine (HLV.out _).mono ?_; rintro e w8 ⟨rfl, hb8⟩; have HB8 := Lib.hid (below_step HB7.out hb8); clear hb8))
  go_ret
  exact ⟨rfl, below_step HB.out HB8.out⟩
end Go.Proofs.Ytieednadbcghjaa

namespace Go.Proofs.Ytieednadbcghjaa
set_option linter.unusedVariables false
open Go.RowKit Go.Lib

structure Tq where
  k : Int
  w : Wq
  hd : w.dg.length = 32
  p : Option Addr
  c : Nat
  B : List Int
  a : ByteArray
  n : Int
def Tq.s (x : Tq) : Value := .slice x.p x.B.length x.c
def Tq.z (x : Tq) : List Value := [x.s, .string x.a, .int .i64 x.n]
def Tq.f (x : Tq) : List Value := .int .i64 x.k :: (mixL x.w.a x.w.dg x.w.t ++ x.z)
theorem Tq.wl (x : Tq) : (mixL x.w.a x.w.dg x.w.t).length = 39 := by rw [mixL_length, x.hd]; rfl
theorem Tq.fl (x : Tq) : x.f.length = 43 := by unfold Tq.f; rw [List.length_cons, List.length_append, x.wl]; rfl
theorem Tq.one (x : Tq) : ∀ v ∈ x.f, v.oneCell' = true := fun v hv => by
  unfold Tq.f at hv
  rcases List.mem_cons.1 hv with rfl | hv
  · rfl
  · rcases List.mem_append.1 hv with h | h
    · unfold mixL at h
      rcases List.mem_append.1 h with h | h
      · simp only [Wq.a, List.mem_cons, List.not_mem_nil, or_false] at h
        rcases h with rfl | rfl <;> rfl
      · rcases List.mem_append.1 h with h | h
        · obtain ⟨y, _, rfl⟩ := List.mem_map.1 h; rfl
        · simp only [Wq.t, List.mem_cons, List.not_mem_nil, or_false] at h
          rcases h with rfl | rfl | rfl | rfl | rfl <;> rfl
    · simp only [Tq.z, List.mem_cons, List.not_mem_nil, or_false] at h
      rcases h with rfl | rfl | rfl <;> rfl
def tq0 : Tq := ⟨0, wq0, rfl, none, 0, [], ⟨#[]⟩, 0⟩
def encTq : Ec Tq where
  f := Tq.f
  k := 43
  t := 36
  d := tq0
  len := fun x => x.fl
  one := fun x v hv => x.one v hv
  pos := by decide
def Tq.cs (x : Tq) : Array Value := x.f.toArray
theorem Tq.size (x : Tq) : x.cs.size = 43 := by unfold Tq.cs; rw [List.size_toArray, x.fl]
theorem sizeTq : (Try.prog.info? 36).map (·.size) = some 43 := by kernel_rfl
theorem Tq.sizeOf (x : Tq) : (Try.prog.info? 36).map (·.size) = some x.cs.size := by rw [x.size]; exact sizeTq
theorem Tq.all (x : Tq) : x.cs.all (·.oneCell') = true := by
  unfold Tq.cs
  rw [List.all_toArray, List.all_eq_true]
  exact x.one
theorem Gs.tq {W : World} {p : Option Addr} {n : Nat} {L : List Tq} (h : Gs encTq W p n L) (j : Nat) (hj : j < n) :
    ∃ b off x, p = some ⟨b, off, none⟩ ∧ L[j]? = some x ∧ x ∈ L ∧ W.rangeAt b (off + j * 43) x.f := by
  obtain ⟨b, off, hp, hc⟩ := h.ptr j hj
  have hl := h.len
  have hx : L[j]? = some (L[j]'(by omega)) := List.getElem?_eq_getElem _
  have e : L.getD j encTq.d = L[j]'(by omega) := by rw [List.getD_eq_getElem?_getD, hx]; rfl
  rw [e] at hc
  exact ⟨b, off, _, hp, hx, List.getElem_mem _, fun i v hv => hc i v hv⟩
theorem tq_load {W : World} {b o : Nat} {x : Tq} (h : W.rangeAt b o x.f) : (Instr.loadAt 36 (.pointer (some ⟨b, o, none⟩))).run Try.prog W = .ok (.agg x.cs) W :=
  run_loadAt_mid W b o 36 _ _ h Try.underlying36 rfl (by rw [x.fl]; exact sizeTq)
/-- block b holds a deed -/
def Tm (W : World) (b : Nat) (x : Tq) : Prop := W.heap[b]? = some (.cells x.cs 36 (0, 0))
theorem Tm.range {W : World} {b : Nat} {x : Tq} (h : Tm W b x) : W.rangeAt b 0 x.f := fun i v hv => by
  rw [Nat.zero_add]
  have h1 : W.heap[b]? = some (.cells x.f.toArray 36 (0, 0)) := h
  simp only [World.cell?, h1]
  simpa using hv
theorem Tm.later {W V : World} {b : Nat} {x : Tq} (h : Tm W b x) (hb : Below W.heap.size W V) : Tm V b x := obj_later h hb
theorem Tm.keep {W V : World} {b : Nat} {x : Tq} (h : Tm W b x) (hb : V.heap[b]? = W.heap[b]?) : Tm V b x := hb.trans h
theorem Tm.lt {W : World} {b : Nat} {x : Tq} (h : Tm W b x) : b < W.heap.size := (Array.getElem?_eq_some_iff.1 h).1
theorem tq_zget (x : Tq) (j : Nat) : x.f[40 + j]? = x.z[j]? := by
  unfold Tq.f
  rw [show 40 + j = (39 + j) + 1 by omega, List.getElem?_cons_succ, List.getElem?_append_right (by rw [x.wl]; omega), x.wl]
  congr 1
  omega
theorem Tm.cells {W : World} {b : Nat} {x : Tq} (h : Tm W b x) : W.cell? ⟨b, 0, none⟩ = some (.int .i64 x.k) ∧ W.cell? ⟨b, 40, none⟩ = some x.s ∧ W.cell? ⟨b, 41, none⟩ = some (.string x.a) ∧ W.cell? ⟨b, 42, none⟩ = some (.int .i64 x.n) := by
  have hr := h.range
  have h0 := hr 0 _ (show x.f[0]? = _ from rfl)
  have h1 := hr 40 _ (tq_zget x 0)
  have h2 := hr 41 _ (tq_zget x 1)
  have h3 := hr 42 _ (tq_zget x 2)
  simp only [Nat.zero_add] at h0 h1 h2 h3
  exact ⟨h0, h1, h2, h3⟩
theorem Tm.wrange {W : World} {b : Nat} {x : Tq} (h : Tm W b x) : W.rangeAt b 1 (mixL x.w.a x.w.dg x.w.t) := fun i v hv => by
  have h1 := h.range (i + 1) v (by
    unfold Tq.f
    rw [List.getElem?_cons_succ, List.getElem?_append_left (List.getElem?_eq_some_iff.1 hv).1]
    exact hv)
  rw [Nat.zero_add, Nat.add_comm] at h1
  exact h1
theorem Tm.word {W : World} {b : Nat} {x : Tq} (h : Tm W b x) : (Instr.loadAt 33 (.pointer (some ⟨b, 1, none⟩))).run Try.prog W = .ok (.agg (mixC x.w.a x.w.dg x.w.t)) W :=
  run_loadAt_mid W b 1 33 _ _ h.wrange Try.underlying33 rfl (by rw [x.wl]; exact size39)
theorem Tm.nm {W : World} {b : Nat} {x : Tq} (h : Tm W b x) : W.cell? ⟨b, 35, none⟩ = some (.string x.w.nm) := by
  refine h.wrange 34 _ ?_
  unfold mixL
  rw [List.getElem?_append_right (by simp [Wq.a]), List.getElem?_append_right (by simp [Wq.a, x.hd])]
  simp [Wq.a, x.hd, Wq.t]
theorem tq_lay {w W : World} {x : Tq} {b : Nat} (hb : w.heap.size = b) (h : (w.alloc (.cells tq0.cs 36)).setRow b x.cs = W) : Tm W b x ∧ Below w.heap.size w W := by
  subst hb
  rw [← h]
  exact ⟨setRow_heap _ _ _ _ _ _ (heap_alloc_new w (.cells tq0.cs 36)), below_setRow8 ((Below.refl _ _).alloc (Nat.le_refl _) _) _ _ (Nat.le_refl _)⟩
section
variable {Ix : World → (Nat → Prop) → (Nat → Prop) → Value → List Pt → Prop}
/-- between deeds: the table, and the reference's row -/
structure TdS (Ix : World → (Nat → Prop) → (Nat → Prop) → Value → List Pt → Prop) (w W : World) (v : Value) (S F N : Nat → Prop) (L : List Pt) (q : Option Addr) (m : Nat) (o : List Tx) : Prop where
  ix : Ix W S F v L
  re : ReT W N q m o
  eq : ptL o = L
  ds : ∀ b, S b → ¬ N b
  sa : ∀ b, S b → w.heap.size ≤ b
  le : Below w.heap.size w W
theorem TdS.later (hT : TagOk Ix) {w W V : World} {v : Value} {S F N : Nat → Prop} {L : List Pt} {q : Option Addr} {m : Nat} {o : List Tx} (h : TdS Ix w W v S F N L q m o) (hb : Below W.heap.size W V) : TdS Ix w V v S F N L q m o :=
  ⟨hT.later h.ix hb, h.re.later hb, h.eq, h.ds, h.sa, below_step h.le hb⟩
theorem TdS.len {w W : World} {v : Value} {S F N : Nat → Prop} {L : List Pt} {q : Option Addr} {m : Nat} {o : List Tx} (h : TdS Ix w W v S F N L q m o) : m = L.length := by rw [← h.eq, ptL_length, h.re.gs.len]
/-- amid a deed: the table is turned, the row is not -/
structure TmS (Ix : World → (Nat → Prop) → (Nat → Prop) → Value → List Pt → Prop) (w W : World) (v : Value) (S F N : Nat → Prop) (L' L : List Pt) (q : Option Addr) (m : Nat) (o : List Tx) : Prop where
  ix : Ix W S F v L'
  re : ReT W N q m o
  eq : ptL o = L
  ds : ∀ b, S b → ¬ N b
  sa : ∀ b, S b → w.heap.size ≤ b
  le : Below w.heap.size w W
theorem TdS.op {w W V : World} {v : Value} {S F N S' F' : Nat → Prop} {L L' : List Pt} {q : Option Addr} {m : Nat} {o : List Tx} (h : TdS Ix w W v S F N L q m o) (hx : Ix V S' F' v L') (hc : Chg S W V) (hs : ∀ b, S' b → S b ∨ W.heap.size ≤ b) : TmS Ix w V v S' F' N L' L q m o :=
  ⟨hx, h.re.hold (fun b hN => hc.block b (h.re.lt b hN) (fun hS => h.ds b hS hN)) hc.size, h.eq, fun b hS hN => (hs b hS).elim (fun h1 => h.ds b h1 hN) (fun h1 => absurd (h.re.lt b hN) (Nat.not_lt.2 h1)), fun b hS => (hs b hS).elim (h.sa b) (fun h1 => Nat.le_trans h.le.size h1), h.le.trans (hc.below h.sa h.le.size)⟩
theorem TmS.ref (hT : TagOk Ix) {w W V : World} {v : Value} {S F N : Nat → Prop} {L L' : List Pt} {q q2 : Option Addr} {m m2 : Nat} {o o2 : List Tx} (h : TmS Ix w W v S F N L' L q m o) (hb : Below W.heap.size W V) (hg : Gs encTn V q2 m2 o2) (hq : m2 ≠ 0 → ∀ b off, q2 = some ⟨b, off, none⟩ → N b ∨ W.heap.size ≤ b)
    (ho : ∀ x ∈ o2, x ∈ o ∨ dok x.e.dg ∧ Gw encI V W.heap.size x.s x.e.ins) (he : ptL o2 = L') : TdS Ix w V v S F (fun b => N b ∨ (W.heap.size ≤ b ∧ b < V.heap.size)) L' q2 m2 o2 :=
  ⟨hT.later h.ix hb, h.re.next hb hg hq ho, he, fun b hS hN => hN.elim (h.ds b hS) (fun h1 => absurd (hT.lt h.ix b (Or.inl hS)) (Nat.not_lt.2 h1.1)), h.sa, below_step h.le hb⟩
/-- the reference's Apply, Keep behind the table's -/
theorem TmS.app (hT : TagOk Ix) {w W V : World} {v : Value} {S F N : Nat → Prop} {L : List Pt} {q q2 : Option Addr} {m m2 : Nat} {o o2 : List Tx} {x : Wq} (h : TmS Ix w W v S F N (applyT L x) L q m o) (hb : Below W.heap.size W V) (hg : Gs encTn V q2 m2 o2) (hq : (q2 = q ∧ m2 = m) ∨ ∀ b off, q2 = some ⟨b, off, none⟩ → W.heap.size ≤ b)
    (ho : ∀ y ∈ o2, y ∈ o ∨ dok y.e.dg ∧ Gw encI V W.heap.size y.s y.e.ins) (he : ptL o2 = applyT (ptL o) x) : TdS Ix w V v S F (fun b => N b ∨ (W.heap.size ≤ b ∧ b < V.heap.size)) (applyT L x) q2 m2 o2 :=
  h.ref hT hb hg (fun hn b off e => hq.elim (fun ⟨h1, h2⟩ => Or.inl (h.re.row (by rw [← h2]; exact hn) b off (by rw [← h1]; exact e))) (fun h1 => Or.inr (h1 b off e))) ho (by rw [he, h.eq])
end
end Go.Proofs.Ytieednadbcghjaa

namespace Go.Proofs.Ytieednadbcghjaa
set_option linter.unusedVariables false
open Go.RowKit Go.Lib

theorem rsame6_refl (p q : Option Addr) (n m cap cap' : Nat) (L : List (List Int)) (w : World) (h : Ds w p n L) (h' : Ds w q m L) (hn : n ≤ maxLen) (hm : m ≤ maxLen) :
    Calls Try.prog 20 #[.slice p n cap, .slice q m cap'] w fun e w' => e = .returned (.bool true) ∧ Below w.heap.size w w' := by
  refine (rsame_any p q n m cap cap' L L w h h' hn hm).mono ?_
  rintro e w' ⟨rfl, hb⟩
  exact ⟨by rw [decide_eq_true rfl], hb⟩
set_option maxRecDepth 100000 in
set_option maxHeartbeats 8000000 in
theorem tagsdoes_any {Ix : World → (Nat → Prop) → (Nat → Prop) → Value → List Pt → Prop} (hT : TagOk Ix) (p : Option Addr) (n c : Nat) (Ls : List Tx) (q : Option Addr) (m d : Nat) (D : List Tq) (K : Nat) (w : World)
    (hR : ReT w (fun b => b < w.heap.size) p n Ls) (hpc : p = none → c = 0) (hnc : n ≤ c) (hcm : c ≤ maxLen) (hil : insLeT (ptL Ls) K) (hD : Gs encTq w q m D) (hDi : ∀ x ∈ D, Is w x.s x.B ∧ dok x.w.dg ∧ x.B.length ≤ 1048576 ∧ -9223372036854775808 ≤ x.n ∧ x.n ≤ 9223372036854775807) (hnm : n + m ≤ 1048576) (hkm : K + m ≤ 1048576) :
    Calls Try.prog 3 #[.slice p n c, .slice q m d] w fun e w' => e = .returned (.bool true) ∧ Below w.heap.size w w' := by
  have HT := Lib.hid hT
  have HD := Lib.hid hD
  have HDI := Lib.hid hDi
  have HIL := Lib.hid hil
  have HR := Lib.hid hR
  have HNL : Hid ((ptL Ls).length = n) := Lib.hid (by rw [ptL_length, hR.gs.len])
  have HNW := Lib.hid (hT.new hR hpc hnc hcm (by omega) (fun x hx => Nat.le_trans (hil x hx) (by omega)))
  have HRN := Lib.hid fun W (hW : Below w.heap.size w W) => rnew21_any p n c Ls W (hR.gs.later hW) (by omega)
  have HLV := Lib.hid fun W => lives21_any hT W
  clear hT hR hil hD hDi
  go_enter Try.func3, Try.ntmps3
  go_upto_region 3 with (first
    | (go_at_call 6; refine HNW.out.mono ?_; rintro e w1 ⟨v, S, F, rfl, hx1, hs1, hf1, hb1⟩; have HX1 := Lib.hid hx1; have HS1 := Lib.hid hs1; have HB1 := Lib.hid hb1; clear hx1 hs1 hf1 hb1)
    | (go_at_call 7; refine (HRN.out _ HB1.out).mono ?_; rintro e w2 ⟨v2, o2, rfl, he2, ho2, hm2, hb2⟩; obtain ⟨q2, d2, hv2, _, _, _, hbl2⟩ := gwTn_open ho2; obtain ⟨m2, hm2'⟩ : ∃ x, o2.length = x := ⟨_, rfl⟩; rw [hm2'] at hv2; subst hv2; have HO2 := Lib.hid ho2.gs; have HE2 := Lib.hid he2; have HM2 := Lib.hid hm2; have HB2 := Lib.hid hb2; have HBL2 := Lib.hid hbl2; clear ho2 hm2' he2 hm2 hb2 hbl2))
  have HIS : Hid (∃ S F N o, TdS Ix w w2 v S F N (newT (ptL Ls)) q2 m2 o) := Lib.hid (by
    have h1 : TmS Ix w w1 v S F (fun b => b < w.heap.size) (newT (ptL Ls)) (ptL Ls) p n Ls := ⟨HX1.out, HR.out.later HB1.out, rfl, fun b hS hN => absurd (HS1.out b hS) (Nat.not_le.2 hN), HS1.out, HB1.out⟩
    have hg := HO2.out
    have hl := hg.len
    refine ⟨_, _, _, _, h1.ref HT.out HB2.out (m2 := m2) hg (fun hn b off e => Or.inr (HBL2.out b off e)) (fun x hx => Or.inl (HM2.out x hx)) HE2.out⟩)
  obtain ⟨S0, F0, N0, o0, HIS⟩ := HIS.out
  have HI0 := Lib.hid HIS
  clear HIS HRN
  go_wp2
  go_loopw [6, 7] (fun rv j wr => ∃ (k : Nat) (S F N : Nat → Prop) (L : List Pt) (q' : Option Addr) (m' d' : Nat) (o : List Tx), k ≤ m ∧ j = .int .i64 (k : Int) ∧ rv = .slice q' m' d' ∧ Hid (TdS Ix w wr v S F N L q' m' o) ∧ Hid (L.length ≤ n + k) ∧ Hid (insLeT L (K + k))) (fun _ j _ => m - (intOf j).toNat)
  case atStart => exact ⟨0, S0, F0, N0, _, q2, m2, d2, o0, by omega, rfl, rfl, HI0, Lib.hid (by have := newT_length (ptL Ls); rw [HNL.out] at this; omega), Lib.hid (newT_ins HIL.out)⟩
  case round =>
    obtain ⟨k, S, F, N, L, q', m', d', o, hkm', rfl, rfl, HI, HLN, HIN⟩ := hrel
    by_cases hlt : k < m
    · obtain ⟨b1, off, y, rfl, hy1, hy3, hr⟩ := (HD.out.later HI.out.le).tq k hlt
      obtain ⟨hyi, hyd, hyb, hyn1, hyn2⟩ := HDI.out y hy3
      have HYD := Lib.hid hyd
      have HYI := Lib.hid fun W (hW : Below w.heap.size w W) => hyi.later hW
      have HYS : Hid (y.B ≠ [] → ∀ b, y.s.ownBlock = some b → ¬ S b) := Lib.hid fun hB b hb hS => absurd (hyi.lt hB hb) (Nat.not_lt.2 (HI.out.sa b hS))
      have HLQ := Lib.hid (tq_load hr)
      have hki : (k : Int) < (m : Int) := by omega
      have hk0 : (0 : Int) ≤ (k : Int) := by omega
      have hLL : L.length ≤ 1048576 := by have := HLN.out; omega
      clear hr hy1 hy3 hyi hyd
      go_upto_region 7 with (first
        | (refine wpList_ld rfl 36 _ rfl _ rfl _ HLQ.out ?_)
        | (refine wpList_store_row rfl 36 _ _ rfl wr.heap.size y.cs rfl rfl 36 _ (heap_alloc_new _ _) y.sizeOf (tq0.size.trans y.size.symm) y.all ?_; generalize hwA : World.setRow _ _ _ = wA))
      obtain ⟨hmA, hbA⟩ := tq_lay rfl hwA
      obtain ⟨G, hG⟩ : ∃ g, wr.heap.size = g := ⟨_, rfl⟩
      have HGS : Hid (¬ S G) := Lib.hid fun h => by have := HT.out.lt HI.out.ix G (Or.inl h); omega
      rw [hG] at hmA
      rw [hG]
      have HMA := Lib.hid hmA
      have HIA := Lib.hid (HI.out.later HT.out hbA)
      obtain ⟨c0, c40, _, _⟩ := hmA.cells
      unfold Tq.s at c40
      have HLWA := Lib.hid hmA.word
      have HGL : Hid (G < wA.heap.size) := Lib.hid hmA.lt
      have HAP := Lib.hid (HT.out.apply y.w HIA.out.ix HYD.out hLL (fun x hx => Nat.le_trans (HIN.out x hx) (by omega)))
      have HKP := Lib.hid (HT.out.keepS HIA.out.ix (HYI.out wA HIA.out.le) HYS.out (by omega) hLL (fun x hx => Nat.le_trans (HIN.out x hx) (by omega)))
      have HRA := Lib.hid fun (S' F' : Nat → Prop) (L' : List Pt) (W : World) (h : TmS Ix w W v S' F' N L' L q' m' o) => rapply21_any q' m' d' o y.w W h.re.gs h.re.is h.re.dk (fun z hz => by
        have h1 := HIN.out z.e (by rw [← h.eq]; exact List.mem_map_of_mem hz)
        omega) HYD.out (by rw [show m' = L.length from by rw [← h.eq, ptL_length, h.re.gs.len]]; omega)
      have HRK := Lib.hid fun (S' F' : Nat → Prop) (L' : List Pt) (W : World) (h : TmS Ix w W v S' F' N L' L q' m' o) => rkeep21_any q' m' d' o y.p y.B.length y.c y.B W h.re.gs h.re.is h.re.dk (fun z hz => by
        have h1 := HIN.out z.e (by rw [← h.eq]; exact List.mem_map_of_mem hz)
        omega) (by
          obtain ⟨p9, c9, e9, g9, _⟩ := HYI.out W h.le
          unfold Tq.s at e9
          simp only [Value.slice.injEq] at e9
          obtain ⟨rfl, -, rfl⟩ := e9
          exact g9) (by omega) (by rw [show m' = L.length from by rw [← h.eq, ptL_length, h.re.gs.len]]; omega)
      unfold Wq.v at HAP HRA
      unfold Tq.s at HKP
      have HWD := Lib.hid fun W (hW : Tm W G y) => hW.word
      generalize hMW : mixC y.w.a y.w.dg y.w.t = MW at *
      clear hmA hbA hwA hMW hG
      by_cases hz : y.k = 0
      · have ht : (y.k == 0) = true := by simpa using hz
        clear hz c40
        go_upto_region 9 with (first
          | (refine wpList_ld rfl 33 _ rfl _ rfl _ HLWA.out ?_)
          | (go_at_call 8; refine HAP.out.mono ?_; rintro e w3 ⟨S3, F3, rfl, hx3, hc3, hs3, hf3⟩))
        have HM3 := Lib.hid (HIA.out.op hx3 hc3 hs3)
        have HMB : Hid (Tm w3 G y) := Lib.hid (HMA.out.keep (hc3.block G HGL.out HGS.out))
        have HLW3 := Lib.hid (HWD.out w3 HMB.out)
        have HRA3 := Lib.hid (HRA.out _ _ _ _ HM3.out)
        clear hx3 hc3 hs3 hf3 c0
        go_upto_region 12 with (first
          | (refine wpList_ld rfl 33 _ rfl _ rfl _ HLW3.out ?_)
          | (go_at_call 9; refine HRA3.out.mono ?_; rintro e w4 ⟨q4, m4, d4, o4, rfl, he4, hg4, hq4, ho4, _, hb4⟩))
        have HIV := Lib.hid (HM3.out.app HT.out hb4 hg4 hq4 ho4 he4)
        have HM4 : Hid (Tm w4 G y) := Lib.hid (HMB.out.later hb4)
        have HLN2 : Hid ((applyT L y.w).length ≤ n + (k + 1)) := Lib.hid (by have h1 := applyT_length L y.w; have h2 := HLN.out; omega)
        have HIN2 : Hid (insLeT (applyT L y.w) (K + (k + 1))) := Lib.hid (applyT_ins HIN.out)
        clear he4 hg4 hq4 ho4 hb4
        generalize applyT L y.w = L2 at *
        have hL2 : L2.length ≤ 1048576 := by have := HLN2.out; omega
        have c35 := HM4.out.nm
        have HGE := Lib.hid (HT.out.get y.w.nm HIV.out.ix)
        obtain ⟨R, hR⟩ : ∃ R, getTR L2 y.w.nm = R := ⟨_, rfl⟩
        have HRD : Hid (dok R.1.dg) := Lib.hid (by
          rw [← hR]
          unfold getTR
          cases hge : getT L2 y.w.nm with
          | none => exact dz32_ok
          | some z => exact (HT.out.ok HIV.out.ix).2 z (getT_mem hge).1)
        have HRI : Hid (R.1.ins.length ≤ 2097152) := Lib.hid (by
          rw [← hR]
          exact Nat.le_trans (getTR_ins HIN2.out _) (by omega))
        have HRG := Lib.hid fun W (hW : Below w4.heap.size w4 W) => rget21_any q4 m4 d4 _ y.w.nm W (HIV.out.re.later hW).gs (by rw [HIV.out.len]; omega)
        rw [HIV.out.eq] at HRG
        rw [hR] at HGE HRG
        obtain ⟨R, ok⟩ := R
        dsimp only at HRD HRI
        clear hR
        go_upto_region 13 with (first
          | (go_at_call 12; refine HGE.out.mono ?_; rintro e w5 ⟨s5, rfl, hi5, _, hb5⟩; have HI5 := Lib.hid hi5; have HB5 := Lib.hid hb5; obtain ⟨p5, c5, rfl, _⟩ := hi5; clear hb5)
          | (refine wpList_store_row rfl 42 _ _ rfl w5.heap.size (tnC R _) rfl rfl 42 _ (heap_alloc_new _ _) (tnC_sizeOf R _ HRD.out.1) ((tnC_size zeroT _ rfl).trans (tnC_size R _ HRD.out.1).symm) (tnC_one _ _ _ _) ?_; generalize hw6 : World.setRow _ _ _ = w6))
        obtain ⟨he6, hb6⟩ := tnC_lay rfl hw6
        obtain ⟨g6, hg6⟩ : ∃ g, w5.heap.size = g := ⟨_, rfl⟩
        rw [hg6] at he6
        rw [hg6]
        have HB6 := Lib.hid (below_step HB5.out hb6)
        have HV6 : Hid (Td w6 g6 R _) := Lib.hid ⟨he6, HI5.out.later hb6, HRD.out⟩
        have HM6 : Hid (Tm w6 G y) := Lib.hid (HM4.out.later HB6.out)
        have d35 := HM6.out.nm
        have HRG6 := Lib.hid (HRG.out w6 HB6.out)
        clear he6 hb6 hw6 hg6 c35
        go_upto_region 14 with (first
          | (go_at_call 13; refine HRG6.out.mono ?_; rintro e w7 ⟨u7, rfl, ho7, hb7⟩; have u7is : Is w7 u7 R.ins := (ho7.elim (fun ⟨z, hz, h1, h2⟩ => (by have h3 := ((HIV.out.re.later HB6.out).is z hz).later hb7; rw [h1, ← h2] at h3; exact h3)) (fun ⟨h1, h2⟩ => (by have h4 : R = zeroT := h2; rw [h1, h4]; exact Is.nil w7))); have HU7 := Lib.hid u7is; have HB7 := Lib.hid hb7; obtain ⟨p7, c7, hu7, _⟩ := u7is; subst hu7; clear hb7 ho7)
          | (refine wpList_store_row rfl 42 _ _ rfl w7.heap.size (tnC R _) rfl rfl 42 _ (heap_alloc_new _ _) (tnC_sizeOf R _ HRD.out.1) ((tnC_size zeroT _ rfl).trans (tnC_size R _ HRD.out.1).symm) (tnC_one _ _ _ _) ?_; generalize hw8 : World.setRow _ _ _ = w8))
        obtain ⟨he8, hb8⟩ := tnC_lay rfl hw8
        obtain ⟨g8, hg8⟩ : ∃ g, w7.heap.size = g := ⟨_, rfl⟩
        rw [hg8] at he8
        rw [hg8]
        have hb68 := below_step HB7.out hb8
        have HB8 := Lib.hid (below_step HB6.out hb68)
        have HV8 : Hid (Td w8 g8 R _) := Lib.hid ⟨he8, HU7.out.later hb8, HRD.out⟩
        have HV68 := Lib.hid (HV6.out.later hb68)
        have HIV8 := Lib.hid (HIV.out.later HT.out HB8.out)
        obtain ⟨ya, hya⟩ : ∃ x, y.a = x := ⟨_, rfl⟩
        obtain ⟨yn, hyn⟩ : ∃ x, y.n = x := ⟨_, rfl⟩
        have HCL : Hid (∀ W, Below w8.heap.size w8 W → W.cell? ⟨G, 41, none⟩ = some (.string ya) ∧ W.cell? ⟨G, 42, none⟩ = some (.int .i64 yn)) := Lib.hid fun W hW => by
          have h1 := ((HM6.out.later hb68).later hW).cells
          rw [hya, hyn] at h1
          exact h1.2.2
        have HCN0 : Hid (∃ x, (namesT L2).length = x) := Lib.hid ⟨_, rfl⟩
        obtain ⟨cn, hcn⟩ := HCN0.out
        have HCN := Lib.hid hcn
        have HNN2 : Hid ((namesT L2).length ≤ 1048576) := Lib.hid (by have h1 := namesT_le L2 L2.length; rw [List.take_of_length_le (Nat.le_refl _)] at h1; omega)
        have HLL2 : Hid ((listT L2 ya yn).length ≤ 1048576) := Lib.hid (by have h1 := listT_le L2 ya yn L2.length; rw [List.take_of_length_le (Nat.le_refl _)] at h1; omega)
        have HLA := Lib.hid fun W (hW : Below w8.heap.size w8 W) => (HV68.out.later hW).m.load HRD.out.1
        have HLB := Lib.hid fun W (hW : Below w8.heap.size w8 W) => (HV8.out.later hW).m.load HRD.out.1
        have HSE := Lib.hid fun W (hW : Below w8.heap.size w8 W) => rsamet19_any R _ _ W (HV68.out.later hW).i (HV8.out.later hW).i HRD.out HRI.out
        have HCO := Lib.hid fun W (hW : Below w8.heap.size w8 W) => HT.out.count (HT.out.later HIV8.out.ix hW) hL2
        have HRN := Lib.hid fun W (hW : Below w8.heap.size w8 W) => rnames21_any q4 m4 d4 _ W (HIV8.out.re.later hW).gs HIV8.out.re.dk (by rw [HIV8.out.len]; omega)
        have HLI := Lib.hid fun W (hW : Below w8.heap.size w8 W) => HT.out.list y.a y.n (HT.out.later HIV8.out.ix hW) hL2 hyn1 hyn2
        have HRL := Lib.hid fun W (hW : Below w8.heap.size w8 W) => rlist21_any q4 m4 d4 _ y.a y.n W (HIV8.out.re.later hW).gs (by rw [HIV8.out.len]; omega)
        have HNA := Lib.hid fun W (hW : Below w8.heap.size w8 W) => HT.out.names (HT.out.later HIV8.out.ix hW) hL2
        have HRO := Lib.hid fun W (hW : Below w8.heap.size w8 W) => HT.out.row (HT.out.later HIV8.out.ix hW) hL2
        rw [HIV8.out.eq] at HRN HRL
        rw [hya, hyn] at HLI HRL
        rw [hcn] at HCO
        have hb1 : (ok != ok) = false := by simp
        have hb2 : ((cn : Int) != (cn : Int)) = false := by simp
        unfold tnV at HSE
        generalize hMA : tnC R (.slice p5 R.ins.length c5) = MA at *
        generalize hMB : tnC R (.slice p7 R.ins.length c7) = MB at *
        clear he8 hb8 hw8 hg8 d35 hb68 hya hyn hcn HCN0 hMA hMB
        refine wp_region_held_drew (S := (fun W : World => W.cell? ⟨G, 41, none⟩ = some (.string ya) ∧ W.cell? ⟨G, 42, none⟩ = some (.int .i64 yn) ∧ Below w8.heap.size w8 W)) (by kernel_rfl) ⟨(HCL.out _ (Below.refl _ _).drew).1, (HCL.out _ (Below.refl _ _).drew).2, (Below.refl _ _).drew⟩ (fun hHeld => ?_)
        refine take_at 0 rfl (by kernel_rfl) (by kernel_rfl) (by kernel_rfl) (fun _ _ _ h => h) (yieldsIf_ld (by rfl) 42 (.tmp 9) rfl (.pointer (some ⟨g6, 0, none⟩)) rfl (.agg MA) (fun W hW => HLA.out W hW.2.2)) (by assumption) ?_
        (try simp only [Act.put, List.setIfInBounds_toArray, List.set_cons_zero, List.set_cons_succ])
        refine take_at 1 rfl (by kernel_rfl) (by kernel_rfl) (by kernel_rfl) (fun _ _ _ h => h) (yieldsIf_ld (by rfl) 42 (.tmp 11) rfl (.pointer (some ⟨g8, 0, none⟩)) rfl (.agg MB) (fun W hW => HLB.out W hW.2.2)) (by assumption) ?_
        (try simp only [Act.put, List.setIfInBounds_toArray, List.set_cons_zero, List.set_cons_succ])
        refine ready_at 2 rfl (by kernel_rfl) (fun K hK => ?_)
        go_simp
        refine (HSE.out _ hHeld.2.2).mono ?_
        rintro r wa ⟨rfl, hba⟩
        have hBa := Lib.hid (below_step hHeld.2.2 hba)
        clear hHeld hba
        first
          | refine hK.out _ _ ?hS3 (fun hHeld => ?rest3)
          | (go_wp2_with fail; refine hK.out _ _ ?hS3 (fun hHeld => ?rest3))
        case hS3 => exact ⟨(HCL.out _ hBa.out).1, (HCL.out _ hBa.out).2, hBa.out⟩
        clear hK K
        (try simp only [Act.put, List.setIfInBounds_toArray, List.set_cons_zero, List.set_cons_succ])
        refine take_at 3 (v := ?vv4) rfl (by kernel_rfl) (by kernel_rfl) (by kernel_rfl) (fun _ _ _ h => h) (Or.inl ⟨by rfl, ?hy4⟩) (by assumption) ?rest4
        case hy4 => intro w hSw; (try dsimp only at hSw); go_simp; (try with_reducible rfl)
        (try simp only [Act.put, List.setIfInBounds_toArray, List.set_cons_zero, List.set_cons_succ])
        refine take_at 4 (v := ?vv5) rfl (by kernel_rfl) (by kernel_rfl) (by kernel_rfl) (fun _ _ _ h => h) (Or.inl ⟨by rfl, ?hy5⟩) (by assumption) ?rest5
        case hy5 => intro w hSw; (try dsimp only at hSw); go_simp; (try with_reducible rfl)
        (try simp only [Act.put, List.setIfInBounds_toArray, List.set_cons_zero, List.set_cons_succ])
        refine take_at 5 (v := ?vv6) rfl (by kernel_rfl) (by kernel_rfl) (by kernel_rfl) (fun _ _ _ h => h) (Or.inl ⟨by rfl, ?hy6⟩) (by assumption) ?rest6
        case hy6 => intro w hSw; (try dsimp only at hSw); go_simp; (try with_reducible rfl)
        (try simp only [Act.put, List.setIfInBounds_toArray, List.set_cons_zero, List.set_cons_succ])
        refine take_at 6 (v := ?vv7) rfl (by kernel_rfl) (by kernel_rfl) (by kernel_rfl) (fun _ _ _ h => h) (Or.inl ⟨by rfl, ?hy7⟩) (by assumption) ?rest7
        case hy7 => intro w hSw; (try dsimp only at hSw); go_simp; (try with_reducible rfl)
        (try simp only [Act.put, List.setIfInBounds_toArray, List.set_cons_zero, List.set_cons_succ])
        refine take_at 7 (v := ?vv8) rfl (by kernel_rfl) (by kernel_rfl) (by kernel_rfl) (fun _ _ _ h => h) (Or.inl ⟨by rfl, ?hy8⟩) (by assumption) ?rest8
        case hy8 => intro w hSw; (try dsimp only at hSw); go_simp; (try with_reducible rfl)
        (try simp only [Act.put, List.setIfInBounds_toArray, List.set_cons_zero, List.set_cons_succ])
        refine take_at 8 (v := ?vv9) rfl (by kernel_rfl) (by kernel_rfl) (by kernel_rfl) (fun _ _ _ h => h) (Or.inl ⟨by rfl, ?hy9⟩) (by assumption) ?rest9
        case hy9 => intro w hSw; (try dsimp only at hSw); go_simp; (try with_reducible rfl)
        (try simp only [Act.put, List.setIfInBounds_toArray, List.set_cons_zero, List.set_cons_succ])
        refine take_at 9 (v := ?vv10) rfl (by kernel_rfl) (by kernel_rfl) (by kernel_rfl) (fun _ _ _ h => h) (Or.inl ⟨by rfl, ?hy10⟩) (by assumption) ?rest10
        case hy10 => intro w hSw; (try dsimp only at hSw); go_simp; (try with_reducible rfl)
        (try simp only [Act.put, List.setIfInBounds_toArray, List.set_cons_zero, List.set_cons_succ])
        refine take_at 10 (v := ?vv11) rfl (by kernel_rfl) (by kernel_rfl) (by kernel_rfl) (fun _ _ _ h => h) (Or.inl ⟨by rfl, ?hy11⟩) (by assumption) ?rest11
        case hy11 => intro w hSw; (try dsimp only at hSw); go_simp; (try with_reducible rfl)
        (try simp only [Act.put, List.setIfInBounds_toArray, List.set_cons_zero, List.set_cons_succ])
        refine take_at 12 (v := ?vv12) rfl (by kernel_rfl) (by kernel_rfl) (by kernel_rfl) (fun _ _ _ h => h) (Or.inl ⟨by rfl, ?hy12⟩) (by assumption) ?rest12
        case hy12 => intro w hSw; (try dsimp only at hSw); go_simp; (try with_reducible rfl)
        (try simp only [Act.put, List.setIfInBounds_toArray, List.set_cons_zero, List.set_cons_succ])
        refine ready_at 11 rfl (by kernel_rfl) (fun K hK => ?_)
        go_simp
        refine (HCO.out _ hHeld.2.2).mono ?_
        rintro r wb ⟨rfl, hbb⟩
        have hBb := Lib.hid (below_step hHeld.2.2 hbb)
        clear hHeld hbb
        first
          | refine hK.out _ _ ?hS13 (fun hHeld => ?rest13)
          | (go_wp2_with fail; refine hK.out _ _ ?hS13 (fun hHeld => ?rest13))
        case hS13 => exact ⟨(HCL.out _ hBb.out).1, (HCL.out _ hBb.out).2, hBb.out⟩
        clear hK K
        (try simp only [Act.put, List.setIfInBounds_toArray, List.set_cons_zero, List.set_cons_succ])
        refine ready_at 13 rfl (by kernel_rfl) (fun K hK => ?_)
        go_simp
        refine (HRN.out _ hHeld.2.2).mono ?_
        rintro r wc ⟨vc, rfl, hoc, hbc⟩
        obtain ⟨pc, cc, hvc, _⟩ := hoc.open
        rw [HCN.out] at hvc
        subst hvc
        have hBc := Lib.hid (below_step hHeld.2.2 hbc)
        clear hHeld hbc hoc
        first
          | refine hK.out _ _ ?hS14 (fun hHeld => ?rest14)
          | (go_wp2_with fail; refine hK.out _ _ ?hS14 (fun hHeld => ?rest14))
        case hS14 => exact ⟨(HCL.out _ hBc.out).1, (HCL.out _ hBc.out).2, hBc.out⟩
        clear hK K
        (try simp only [Act.put, List.setIfInBounds_toArray, List.set_cons_zero, List.set_cons_succ])
        refine take_at 14 (v := ?vv15) rfl (by kernel_rfl) (by kernel_rfl) (by kernel_rfl) (fun _ _ _ h => h) (Or.inl ⟨by rfl, ?hy15⟩) (by assumption) ?rest15
        case hy15 => intro w hSw; (try dsimp only at hSw); go_simp; (try with_reducible rfl)
        (try simp only [Act.put, List.setIfInBounds_toArray, List.set_cons_zero, List.set_cons_succ])
        refine take_at 15 (v := ?vv16) rfl (by kernel_rfl) (by kernel_rfl) (by kernel_rfl) (fun _ _ _ h => h) (Or.inl ⟨by rfl, ?hy16⟩) (by assumption) ?rest16
        case hy16 => intro w hSw; (try dsimp only at hSw); go_simp; (try with_reducible rfl)
        (try simp only [Act.put, List.setIfInBounds_toArray, List.set_cons_zero, List.set_cons_succ])
        refine take_at 16 (v := ?vv17) rfl (by kernel_rfl) (by kernel_rfl) (by kernel_rfl) (fun _ _ _ h => h) (Or.inl ⟨by rfl, ?hy17⟩) (by assumption) ?rest17
        case hy17 => intro w hSw; (try dsimp only at hSw); go_simp; (try with_reducible rfl)
        (try simp only [Act.put, List.setIfInBounds_toArray, List.set_cons_zero, List.set_cons_succ])
        refine take_at 17 (v := ?vv18) rfl (by kernel_rfl) (by kernel_rfl) (by kernel_rfl) (fun _ _ _ h => h) (Or.inl ⟨by rfl, ?hy18⟩) (by assumption) ?rest18
        case hy18 => intro w hSw; (try dsimp only at hSw); go_simp; (try with_reducible rfl)
        (try simp only [Act.put, List.setIfInBounds_toArray, List.set_cons_zero, List.set_cons_succ])
        refine take_at 18 (v := ?vv19) rfl (by kernel_rfl) (by kernel_rfl) (by kernel_rfl) (fun _ _ _ h => h) (Or.inl ⟨by rfl, ?hy19⟩) (by assumption) ?rest19
        case hy19 => intro w hSw; (try dsimp only at hSw); go_simp; (try with_reducible rfl)
        (try simp only [Act.put, List.setIfInBounds_toArray, List.set_cons_zero, List.set_cons_succ])
        refine take_at 19 (v := ?vv20) rfl (by kernel_rfl) (by kernel_rfl) (by kernel_rfl) (fun _ _ _ h => h) (Or.inl ⟨by rfl, ?hy20⟩) (by assumption) ?rest20
        case hy20 => intro w hSw; (try dsimp only at hSw); go_simp; (try with_reducible rfl)
        (try simp only [Act.put, List.setIfInBounds_toArray, List.set_cons_zero, List.set_cons_succ])
        refine take_at 20 (v := ?vv21) rfl (by kernel_rfl) (by kernel_rfl) (by kernel_rfl) (fun _ _ _ h => h) (Or.inl ⟨by rfl, ?hy21⟩) (by assumption) ?rest21
        case hy21 => intro w hSw; (try dsimp only at hSw); go_simp; (try with_reducible rfl)
        (try simp only [Act.put, List.setIfInBounds_toArray, List.set_cons_zero, List.set_cons_succ])
        refine take_at 21 (v := ?vv22) rfl (by kernel_rfl) (by kernel_rfl) (by kernel_rfl) (fun _ _ _ h => h) (Or.inl ⟨by rfl, ?hy22⟩) (by assumption) ?rest22
        case hy22 => intro w hSw; (try dsimp only at hSw); go_simp; (try with_reducible rfl)
        (try simp only [Act.put, List.setIfInBounds_toArray, List.set_cons_zero, List.set_cons_succ])
        refine take_at 22 (v := ?vv23) rfl (by kernel_rfl) (by kernel_rfl) (by kernel_rfl) (fun _ _ _ h => h) (Or.inl ⟨by rfl, ?hy23⟩) (by assumption) ?rest23
        case hy23 => intro w hSw; (try dsimp only at hSw); go_simp; (try with_reducible rfl)
        (try simp only [Act.put, List.setIfInBounds_toArray, List.set_cons_zero, List.set_cons_succ])
        refine take_at 24 (v := ?vv24) rfl (by kernel_rfl) (by kernel_rfl) (by kernel_rfl) (fun _ _ _ h => h) (Or.inl ⟨by rfl, ?hy24⟩) (by assumption) ?rest24
        case hy24 => intro w hSw; (try dsimp only at hSw); go_simp; (try with_reducible rfl)
        (try simp only [Act.put, List.setIfInBounds_toArray, List.set_cons_zero, List.set_cons_succ])
        refine take_at 25 (v := ?vv25) rfl (by kernel_rfl) (by kernel_rfl) (by kernel_rfl) (fun _ _ _ h => h) (Or.inl ⟨by rfl, ?hy25⟩) (by assumption) ?rest25
        case hy25 => intro w hSw; (try dsimp only at hSw); go_simp; (try with_reducible rfl)
        (try simp only [Act.put, List.setIfInBounds_toArray, List.set_cons_zero, List.set_cons_succ])
        refine take_at 26 (v := ?vv26) rfl (by kernel_rfl) (by kernel_rfl) (by kernel_rfl) (fun _ _ _ h => h) (Or.inl ⟨by rfl, ?hy26⟩) (by assumption) ?rest26
        case hy26 => intro w hSw; (try dsimp only at hSw); go_simp; (try with_reducible rfl)
        (try simp only [Act.put, List.setIfInBounds_toArray, List.set_cons_zero, List.set_cons_succ])
        refine take_at 27 (v := ?vv27) rfl (by kernel_rfl) (by kernel_rfl) (by kernel_rfl) (fun _ _ _ h => h) (Or.inl ⟨by rfl, ?hy27⟩) (by assumption) ?rest27
        case hy27 => intro w hSw; (try dsimp only at hSw); go_simp; (try with_reducible rfl)
        (try simp only [Act.put, List.setIfInBounds_toArray, List.set_cons_zero, List.set_cons_succ])
        refine take_at 28 (v := ?vv28) rfl (by kernel_rfl) (by kernel_rfl) (by kernel_rfl) (fun _ _ _ h => h) (Or.inl ⟨by rfl, ?hy28⟩) (by assumption) ?rest28
        case hy28 => intro w hSw; (try dsimp only at hSw); go_simp; (try with_reducible rfl)
        (try simp only [Act.put, List.setIfInBounds_toArray, List.set_cons_zero, List.set_cons_succ])
        refine ready_at 23 rfl (by kernel_rfl) (fun K hK => ?_)
        go_simp
        refine (HLI.out _ hHeld.2.2).mono ?_
        rintro r wd ⟨pd, nd, cd, rfl, hgd, _, _, _, _, hbd⟩
        have HGD := Lib.hid hgd
        have HND : Hid (nd ≤ 2097216) := Lib.hid (by have h1 := hgd.len; have h2 := HLL2.out; omega)
        have hBd := Lib.hid (below_step hHeld.2.2 hbd)
        clear hHeld hbd hgd
        first
          | refine hK.out _ _ ?hS29 (fun hHeld => ?rest29)
          | (go_wp2_with fail; refine hK.out _ _ ?hS29 (fun hHeld => ?rest29))
        case hS29 => exact ⟨(HCL.out _ hBd.out).1, (HCL.out _ hBd.out).2, hBd.out⟩
        clear hK K
        (try simp only [Act.put, List.setIfInBounds_toArray, List.set_cons_zero, List.set_cons_succ])
        refine ready_at 29 rfl (by kernel_rfl) (fun K hK => ?_)
        go_simp
        refine (HRL.out _ hHeld.2.2).mono ?_
        rintro r we ⟨ve, rfl, hge, hbe⟩
        obtain ⟨pe, ce, hve, _⟩ := hge.open
        obtain ⟨ne, hne⟩ : ∃ x, (listT L2 ya yn).length = x := ⟨_, rfl⟩
        rw [hne] at hve
        subst hve
        have HGE2 : Hid (Gs encS we pe ne (listT L2 ya yn)) := Lib.hid hge.gs
        have HGD2 := Lib.hid (HGD.out.later hbe)
        have hBe := Lib.hid (below_step hHeld.2.2 hbe)
        clear hHeld hbe hge hne
        first
          | refine hK.out _ _ ?hS30 (fun hHeld => ?rest30)
          | (go_wp2_with fail; refine hK.out _ _ ?hS30 (fun hHeld => ?rest30))
        case hS30 => exact ⟨(HCL.out _ hBe.out).1, (HCL.out _ hBe.out).2, hBe.out⟩
        clear hK K
        (try simp only [Act.put, List.setIfInBounds_toArray, List.set_cons_zero, List.set_cons_succ])
        refine ready_at 30 rfl (by kernel_rfl) (fun K hK => ?_)
        go_simp
        refine (rtexts21_any pd pe nd cd ne ce _ _ HGD2.out HGE2.out HND.out).mono ?_
        rintro r wf ⟨rfl, qf, hwf⟩
        have hbf : Below we.heap.size we wf := by rw [hwf]; exact below_drewN (Below.refl _ _) qf
        clear hwf
        have hBf := Lib.hid (below_step hHeld.2.2 hbf)
        clear hHeld hbf
        first
          | refine hK.out _ _ ?hS31 (fun hHeld => ?rest31)
          | (go_wp2_with fail; refine hK.out _ _ ?hS31 (fun hHeld => ?rest31))
        case hS31 => exact ⟨(HCL.out _ hBf.out).1, (HCL.out _ hBf.out).2, hBf.out⟩
        clear hK K
        (try simp only [Act.put, List.setIfInBounds_toArray, List.set_cons_zero, List.set_cons_succ])
        refine take_at 31 (v := ?vv32) rfl (by kernel_rfl) (by kernel_rfl) (by kernel_rfl) (fun _ _ _ h => h) (Or.inl ⟨by rfl, ?hy32⟩) (by assumption) ?rest32
        case hy32 => intro w hSw; (try dsimp only at hSw); go_simp; (try with_reducible rfl)
        (try simp only [Act.put, List.setIfInBounds_toArray, List.set_cons_zero, List.set_cons_succ])
        refine take_at 32 (v := ?vv33) rfl (by kernel_rfl) (by kernel_rfl) (by kernel_rfl) (fun _ _ _ h => h) (Or.inl ⟨by rfl, ?hy33⟩) (by assumption) ?rest33
        case hy33 => intro w hSw; (try dsimp only at hSw); go_simp; (try with_reducible rfl)
        (try simp only [Act.put, List.setIfInBounds_toArray, List.set_cons_zero, List.set_cons_succ])
        refine take_at 33 (v := ?vv34) rfl (by kernel_rfl) (by kernel_rfl) (by kernel_rfl) (fun _ _ _ h => h) (Or.inl ⟨by rfl, ?hy34⟩) (by assumption) ?rest34
        case hy34 => intro w hSw; (try dsimp only at hSw); go_simp; (try with_reducible rfl)
        (try simp only [Act.put, List.setIfInBounds_toArray, List.set_cons_zero, List.set_cons_succ])
        refine take_at 34 (v := ?vv35) rfl (by kernel_rfl) (by kernel_rfl) (by kernel_rfl) (fun _ _ _ h => h) (Or.inl ⟨by rfl, ?hy35⟩) (by assumption) ?rest35
        case hy35 => intro w hSw; (try dsimp only at hSw); go_simp; (try with_reducible rfl)
        (try simp only [Act.put, List.setIfInBounds_toArray, List.set_cons_zero, List.set_cons_succ])
        refine take_at 36 (v := ?vv36) rfl (by kernel_rfl) (by kernel_rfl) (by kernel_rfl) (fun _ _ _ h => h) (Or.inl ⟨by rfl, ?hy36⟩) (by assumption) ?rest36
        case hy36 => intro w hSw; (try dsimp only at hSw); go_simp; (try with_reducible rfl)
        (try simp only [Act.put, List.setIfInBounds_toArray, List.set_cons_zero, List.set_cons_succ])
        refine ready_at 35 rfl (by kernel_rfl) (fun K hK => ?_)
        go_simp
        refine (HNA.out _ hHeld.2.2).mono ?_
        rintro r wg ⟨pg, ng, cg, rfl, hdg, hmg, hbg⟩
        have HDG := Lib.hid hdg
        have HMG := Lib.hid hmg
        have hBg := Lib.hid (below_step hHeld.2.2 hbg)
        clear hHeld hbg hdg hmg
        first
          | refine hK.out _ _ ?hS37 (fun hHeld => ?rest37)
          | (go_wp2_with fail; refine hK.out _ _ ?hS37 (fun hHeld => ?rest37))
        case hS37 => exact ⟨(HCL.out _ hBg.out).1, (HCL.out _ hBg.out).2, hBg.out⟩
        clear hK K
        (try simp only [Act.put, List.setIfInBounds_toArray, List.set_cons_zero, List.set_cons_succ])
        refine ready_at 37 rfl (by kernel_rfl) (fun K hK => ?_)
        go_simp
        refine (HRN.out _ hHeld.2.2).mono ?_
        rintro r wh ⟨vh, rfl, hoh, hbh⟩
        obtain ⟨ph, ch, hvh, _, hmh, hdh, _⟩ := hoh.open
        have HDH := Lib.hid hdh
        have HMH : Hid ((namesT L2).length ≤ maxLen) := Lib.hid (by unfold maxLen; have h1 := HNN2.out; omega)
        rw [HCN.out] at hvh HDH HMH
        subst hvh
        have HDG2 := Lib.hid (HDG.out.later hbh)
        have hBh := Lib.hid (below_step hHeld.2.2 hbh)
        clear hHeld hbh hoh hdh hmh
        first
          | refine hK.out _ _ ?hS38 (fun hHeld => ?rest38)
          | (go_wp2_with fail; refine hK.out _ _ ?hS38 (fun hHeld => ?rest38))
        case hS38 => exact ⟨(HCL.out _ hBh.out).1, (HCL.out _ hBh.out).2, hBh.out⟩
        clear hK K
        (try simp only [Act.put, List.setIfInBounds_toArray, List.set_cons_zero, List.set_cons_succ])
        refine ready_at 38 rfl (by kernel_rfl) (fun K hK => ?_)
        go_simp
        refine (rsame6_refl pg ph ng _ cg ch _ _ HDG2.out HDH.out HMG.out HMH.out).mono ?_
        rintro r wi ⟨rfl, hbi⟩
        have hBi := Lib.hid (below_step hHeld.2.2 hbi)
        clear hHeld hbi
        first
          | refine hK.out _ _ ?hS39 (fun hHeld => ?rest39)
          | (go_wp2_with fail; refine hK.out _ _ ?hS39 (fun hHeld => ?rest39))
        case hS39 => exact ⟨(HCL.out _ hBi.out).1, (HCL.out _ hBi.out).2, hBi.out⟩
        clear hK K
        (try simp only [Act.put, List.setIfInBounds_toArray, List.set_cons_zero, List.set_cons_succ])
        refine take_at 39 (v := ?vv40) rfl (by kernel_rfl) (by kernel_rfl) (by kernel_rfl) (fun _ _ _ h => h) (Or.inl ⟨by rfl, ?hy40⟩) (by assumption) ?rest40
        case hy40 => intro w hSw; (try dsimp only at hSw); go_simp; (try with_reducible rfl)
        (try simp only [Act.put, List.setIfInBounds_toArray, List.set_cons_zero, List.set_cons_succ])
        refine take_at 40 (v := ?vv41) rfl (by kernel_rfl) (by kernel_rfl) (by kernel_rfl) (fun _ _ _ h => h) (Or.inl ⟨by rfl, ?hy41⟩) (by assumption) ?rest41
        case hy41 => intro w hSw; (try dsimp only at hSw); go_simp; (try with_reducible rfl)
        (try simp only [Act.put, List.setIfInBounds_toArray, List.set_cons_zero, List.set_cons_succ])
        refine take_at 41 (v := ?vv42) rfl (by kernel_rfl) (by kernel_rfl) (by kernel_rfl) (fun _ _ _ h => h) (Or.inl ⟨by rfl, ?hy42⟩) (by assumption) ?rest42
        case hy42 => intro w hSw; (try dsimp only at hSw); go_simp; (try with_reducible rfl)
        (try simp only [Act.put, List.setIfInBounds_toArray, List.set_cons_zero, List.set_cons_succ])
        refine take_at 42 (v := ?vv43) rfl (by kernel_rfl) (by kernel_rfl) (by kernel_rfl) (fun _ _ _ h => h) (Or.inl ⟨by rfl, ?hy43⟩) (by assumption) ?rest43
        case hy43 => intro w hSw; (try dsimp only at hSw); go_simp; (try with_reducible rfl)
        (try simp only [Act.put, List.setIfInBounds_toArray, List.set_cons_zero, List.set_cons_succ])
        refine take_at 44 (v := ?vv44) rfl (by kernel_rfl) (by kernel_rfl) (by kernel_rfl) (fun _ _ _ h => h) (Or.inl ⟨by rfl, ?hy44⟩) (by assumption) ?rest44
        case hy44 => intro w hSw; (try dsimp only at hSw); go_simp; (try with_reducible rfl)
        (try simp only [Act.put, List.setIfInBounds_toArray, List.set_cons_zero, List.set_cons_succ])
        refine ready_at 43 rfl (by kernel_rfl) (fun K hK => ?_)
        go_simp
        refine (HRO.out _ hHeld.2.2).mono ?_
        rintro r wj ⟨p9, n9, c9, Ls9, N9, rfl, he9, hr9, hn9, hp9, hl9, hm9, hbj⟩
        have HRE9 := Lib.hid hr9
        have HE9 := Lib.hid he9
        have hBj := Lib.hid (below_step hHeld.2.2 hbj)
        clear hHeld hbj he9 hr9 hn9 hp9 hl9 hm9
        first
          | refine hK.out _ _ ?hS45 (fun hHeld => ?rest45)
          | (go_wp2_with fail; refine hK.out _ _ ?hS45 (fun hHeld => ?rest45))
        case hS45 => exact ⟨(HCL.out _ hBj.out).1, (HCL.out _ hBj.out).2, hBj.out⟩
        clear hK K
        (try simp only [Act.put, List.setIfInBounds_toArray, List.set_cons_zero, List.set_cons_succ])
        refine ready_at 45 rfl (by kernel_rfl) (fun K hK => ?_)
        go_simp
        refine (rsame21_any p9 q4 n9 c9 m4 d4 Ls9 _ _ HRE9.out.gs (HIV8.out.re.later hHeld.2.2).gs (HE9.out.trans HIV8.out.eq.symm) HRE9.out.is (HIV8.out.re.later hHeld.2.2).is HRE9.out.dk (fun z hz => Nat.le_trans (HIN2.out z.e (by rw [← HE9.out]; exact List.mem_map_of_mem hz)) (by omega)) (by have h1 := HRE9.out.gs.len; rw [← ptL_length, HE9.out] at h1; omega)).mono ?_
        rintro r wk ⟨rfl, hbk⟩
        have hBk := Lib.hid (below_step hHeld.2.2 hbk)
        clear hHeld hbk
        first
          | refine hK.out _ _ ?hS46 (fun hHeld => ?rest46)
          | (go_wp2_with fail; refine hK.out _ _ ?hS46 (fun hHeld => ?rest46))
        case hS46 => exact ⟨(HCL.out _ hBk.out).1, (HCL.out _ hBk.out).2, hBk.out⟩
        clear hK K
        (try simp only [Act.put, List.setIfInBounds_toArray, List.set_cons_zero, List.set_cons_succ])
        refine take_at 46 (v := ?vv47) rfl (by kernel_rfl) (by kernel_rfl) (by kernel_rfl) (fun _ _ _ h => h) (Or.inl ⟨by rfl, ?hy47⟩) (by assumption) ?rest47
        case hy47 => intro w hSw; (try dsimp only at hSw); go_simp; (try with_reducible rfl)
        (try simp only [Act.put, List.setIfInBounds_toArray, List.set_cons_zero, List.set_cons_succ])
        refine take_at 47 (v := ?vv48) rfl (by kernel_rfl) (by kernel_rfl) (by kernel_rfl) (fun _ _ _ h => h) (Or.inl ⟨by rfl, ?hy48⟩) (by assumption) ?rest48
        case hy48 => intro w hSw; (try dsimp only at hSw); go_simp; (try with_reducible rfl)
        (try simp only [Act.put, List.setIfInBounds_toArray, List.set_cons_zero, List.set_cons_succ])
        refine wpAnyH_done (by kernel_rfl) ?_ _
        have HBF := Lib.hid hHeld.2.2
        clear hHeld
        have HIN3 := Lib.hid (HIV8.out.later HT.out HBF.out)
        go_wp2
        exact ⟨⟨k + 1, _, _, _, L2, q4, m4, d4, _, by omega, by go_num, rfl, HIN3, HLN2, HIN2⟩, by simp [intOf] <;> omega⟩
      · have ht : (y.k == 0) = false := by simpa using hz
        clear hz
        go_upto_region 11 with (go_at_call 10; refine HKP.out.mono ?_; rintro e w3 ⟨S3, F3, rfl, hx3, hc3, hs3, hf3⟩)
        have HM3 := Lib.hid (HIA.out.op hx3 hc3 hs3)
        have HMB : Hid (Tm w3 G y) := Lib.hid (HMA.out.keep (hc3.block G HGL.out HGS.out))
        have HRK3 := Lib.hid (HRK.out _ _ _ _ HM3.out)
        have c43 := HMB.out.cells.2.1
        unfold Tq.s at c43
        clear hx3 hc3 hs3 hf3 c0 c40
        go_upto_region 12 with (go_at_call 11; refine HRK3.out.mono ?_; rintro e w4 ⟨v4, o4, rfl, he4, hg4, ho4, hb4⟩; obtain ⟨q4, d4, hv4, _, _, _, hbl4⟩ := gwTn_open hg4; obtain ⟨m4, hm4⟩ : ∃ x, o4.length = x := ⟨_, rfl⟩; rw [hm4] at hv4; subst hv4)
        have HIV := Lib.hid (HM3.out.ref HT.out hb4 (m2 := m4) (q2 := q4) hg4.gs (fun _ b off e => Or.inr (hbl4 b off e)) (fun x hx => Or.inr (ho4 x hx)) (by rw [he4, HM3.out.eq]))
        have HM4 : Hid (Tm w4 G y) := Lib.hid (HMB.out.later hb4)
        have HLN2 : Hid ((keepTs L y.B).length ≤ n + (k + 1)) := Lib.hid (by have h1 := keepTs_length L y.B; have h2 := HLN.out; omega)
        have HIN2 : Hid (insLeT (keepTs L y.B) (K + (k + 1))) := Lib.hid (fun x hx => Nat.le_succ_of_le (keepTs_ins HIN.out y.B x hx))
        clear he4 hg4 ho4 hb4 hbl4 hm4 c43
        generalize keepTs L y.B = L2 at *
        have hL2 : L2.length ≤ 1048576 := by have := HLN2.out; omega
        have c35 := HM4.out.nm
        have HGE := Lib.hid (HT.out.get y.w.nm HIV.out.ix)
        obtain ⟨R, hR⟩ : ∃ R, getTR L2 y.w.nm = R := ⟨_, rfl⟩
        have HRD : Hid (dok R.1.dg) := Lib.hid (by
          rw [← hR]
          unfold getTR
          cases hge : getT L2 y.w.nm with
          | none => exact dz32_ok
          | some z => exact (HT.out.ok HIV.out.ix).2 z (getT_mem hge).1)
        have HRI : Hid (R.1.ins.length ≤ 2097152) := Lib.hid (by
          rw [← hR]
          exact Nat.le_trans (getTR_ins HIN2.out _) (by omega))
        have HRG := Lib.hid fun W (hW : Below w4.heap.size w4 W) => rget21_any q4 m4 d4 _ y.w.nm W (HIV.out.re.later hW).gs (by rw [HIV.out.len]; omega)
        rw [HIV.out.eq] at HRG
        rw [hR] at HGE HRG
        obtain ⟨R, ok⟩ := R
        dsimp only at HRD HRI
        clear hR
        go_upto_region 13 with (first
          | (go_at_call 12; refine HGE.out.mono ?_; rintro e w5 ⟨s5, rfl, hi5, _, hb5⟩; have HI5 := Lib.hid hi5; have HB5 := Lib.hid hb5; obtain ⟨p5, c5, rfl, _⟩ := hi5; clear hb5)
          | (refine wpList_store_row rfl 42 _ _ rfl w5.heap.size (tnC R _) rfl rfl 42 _ (heap_alloc_new _ _) (tnC_sizeOf R _ HRD.out.1) ((tnC_size zeroT _ rfl).trans (tnC_size R _ HRD.out.1).symm) (tnC_one _ _ _ _) ?_; generalize hw6 : World.setRow _ _ _ = w6))
        obtain ⟨he6, hb6⟩ := tnC_lay rfl hw6
        obtain ⟨g6, hg6⟩ : ∃ g, w5.heap.size = g := ⟨_, rfl⟩
        rw [hg6] at he6
        rw [hg6]
        have HB6 := Lib.hid (below_step HB5.out hb6)
        have HV6 : Hid (Td w6 g6 R _) := Lib.hid ⟨he6, HI5.out.later hb6, HRD.out⟩
        have HM6 : Hid (Tm w6 G y) := Lib.hid (HM4.out.later HB6.out)
        have d35 := HM6.out.nm
        have HRG6 := Lib.hid (HRG.out w6 HB6.out)
        clear he6 hb6 hw6 hg6 c35
        go_upto_region 14 with (first
          | (go_at_call 13; refine HRG6.out.mono ?_; rintro e w7 ⟨u7, rfl, ho7, hb7⟩; have u7is : Is w7 u7 R.ins := (ho7.elim (fun ⟨z, hz, h1, h2⟩ => (by have h3 := ((HIV.out.re.later HB6.out).is z hz).later hb7; rw [h1, ← h2] at h3; exact h3)) (fun ⟨h1, h2⟩ => (by have h4 : R = zeroT := h2; rw [h1, h4]; exact Is.nil w7))); have HU7 := Lib.hid u7is; have HB7 := Lib.hid hb7; obtain ⟨p7, c7, hu7, _⟩ := u7is; subst hu7; clear hb7 ho7)
          | (refine wpList_store_row rfl 42 _ _ rfl w7.heap.size (tnC R _) rfl rfl 42 _ (heap_alloc_new _ _) (tnC_sizeOf R _ HRD.out.1) ((tnC_size zeroT _ rfl).trans (tnC_size R _ HRD.out.1).symm) (tnC_one _ _ _ _) ?_; generalize hw8 : World.setRow _ _ _ = w8))
        obtain ⟨he8, hb8⟩ := tnC_lay rfl hw8
        obtain ⟨g8, hg8⟩ : ∃ g, w7.heap.size = g := ⟨_, rfl⟩
        rw [hg8] at he8
        rw [hg8]
        have hb68 := below_step HB7.out hb8
        have HB8 := Lib.hid (below_step HB6.out hb68)
        have HV8 : Hid (Td w8 g8 R _) := Lib.hid ⟨he8, HU7.out.later hb8, HRD.out⟩
        have HV68 := Lib.hid (HV6.out.later hb68)
        have HIV8 := Lib.hid (HIV.out.later HT.out HB8.out)
        obtain ⟨ya, hya⟩ : ∃ x, y.a = x := ⟨_, rfl⟩
        obtain ⟨yn, hyn⟩ : ∃ x, y.n = x := ⟨_, rfl⟩
        have HCL : Hid (∀ W, Below w8.heap.size w8 W → W.cell? ⟨G, 41, none⟩ = some (.string ya) ∧ W.cell? ⟨G, 42, none⟩ = some (.int .i64 yn)) := Lib.hid fun W hW => by
          have h1 := ((HM6.out.later hb68).later hW).cells
          rw [hya, hyn] at h1
          exact h1.2.2
        have HCN0 : Hid (∃ x, (namesT L2).length = x) := Lib.hid ⟨_, rfl⟩
        obtain ⟨cn, hcn⟩ := HCN0.out
        have HCN := Lib.hid hcn
        have HNN2 : Hid ((namesT L2).length ≤ 1048576) := Lib.hid (by have h1 := namesT_le L2 L2.length; rw [List.take_of_length_le (Nat.le_refl _)] at h1; omega)
        have HLL2 : Hid ((listT L2 ya yn).length ≤ 1048576) := Lib.hid (by have h1 := listT_le L2 ya yn L2.length; rw [List.take_of_length_le (Nat.le_refl _)] at h1; omega)
        have HLA := Lib.hid fun W (hW : Below w8.heap.size w8 W) => (HV68.out.later hW).m.load HRD.out.1
        have HLB := Lib.hid fun W (hW : Below w8.heap.size w8 W) => (HV8.out.later hW).m.load HRD.out.1
        have HSE := Lib.hid fun W (hW : Below w8.heap.size w8 W) => rsamet19_any R _ _ W (HV68.out.later hW).i (HV8.out.later hW).i HRD.out HRI.out
        have HCO := Lib.hid fun W (hW : Below w8.heap.size w8 W) => HT.out.count (HT.out.later HIV8.out.ix hW) hL2
        have HRN := Lib.hid fun W (hW : Below w8.heap.size w8 W) => rnames21_any q4 m4 d4 _ W (HIV8.out.re.later hW).gs HIV8.out.re.dk (by rw [HIV8.out.len]; omega)
        have HLI := Lib.hid fun W (hW : Below w8.heap.size w8 W) => HT.out.list y.a y.n (HT.out.later HIV8.out.ix hW) hL2 hyn1 hyn2
        have HRL := Lib.hid fun W (hW : Below w8.heap.size w8 W) => rlist21_any q4 m4 d4 _ y.a y.n W (HIV8.out.re.later hW).gs (by rw [HIV8.out.len]; omega)
        have HNA := Lib.hid fun W (hW : Below w8.heap.size w8 W) => HT.out.names (HT.out.later HIV8.out.ix hW) hL2
        have HRO := Lib.hid fun W (hW : Below w8.heap.size w8 W) => HT.out.row (HT.out.later HIV8.out.ix hW) hL2
        rw [HIV8.out.eq] at HRN HRL
        rw [hya, hyn] at HLI HRL
        rw [hcn] at HCO
        have hb1 : (ok != ok) = false := by simp
        have hb2 : ((cn : Int) != (cn : Int)) = false := by simp
        unfold tnV at HSE
        generalize hMA : tnC R (.slice p5 R.ins.length c5) = MA at *
        generalize hMB : tnC R (.slice p7 R.ins.length c7) = MB at *
        clear he8 hb8 hw8 hg8 d35 hb68 hya hyn hcn HCN0 hMA hMB
        refine wp_region_held_drew (S := (fun W : World => W.cell? ⟨G, 41, none⟩ = some (.string ya) ∧ W.cell? ⟨G, 42, none⟩ = some (.int .i64 yn) ∧ Below w8.heap.size w8 W)) (by kernel_rfl) ⟨(HCL.out _ (Below.refl _ _).drew).1, (HCL.out _ (Below.refl _ _).drew).2, (Below.refl _ _).drew⟩ (fun hHeld => ?_)
        refine take_at 0 rfl (by kernel_rfl) (by kernel_rfl) (by kernel_rfl) (fun _ _ _ h => h) (yieldsIf_ld (by rfl) 42 (.tmp 9) rfl (.pointer (some ⟨g6, 0, none⟩)) rfl (.agg MA) (fun W hW => HLA.out W hW.2.2)) (by assumption) ?_
        (try simp only [Act.put, List.setIfInBounds_toArray, List.set_cons_zero, List.set_cons_succ])
        refine take_at 1 rfl (by kernel_rfl) (by kernel_rfl) (by kernel_rfl) (fun _ _ _ h => h) (yieldsIf_ld (by rfl) 42 (.tmp 11) rfl (.pointer (some ⟨g8, 0, none⟩)) rfl (.agg MB) (fun W hW => HLB.out W hW.2.2)) (by assumption) ?_
        (try simp only [Act.put, List.setIfInBounds_toArray, List.set_cons_zero, List.set_cons_succ])
        refine ready_at 2 rfl (by kernel_rfl) (fun K hK => ?_)
        go_simp
        refine (HSE.out _ hHeld.2.2).mono ?_
        rintro r wa ⟨rfl, hba⟩
        have hBa := Lib.hid (below_step hHeld.2.2 hba)
        clear hHeld hba
        first
          | refine hK.out _ _ ?hS51 (fun hHeld => ?rest51)
          | (go_wp2_with fail; refine hK.out _ _ ?hS51 (fun hHeld => ?rest51))
        case hS51 => exact ⟨(HCL.out _ hBa.out).1, (HCL.out _ hBa.out).2, hBa.out⟩
        clear hK K
        (try simp only [Act.put, List.setIfInBounds_toArray, List.set_cons_zero, List.set_cons_succ])
        refine take_at 3 (v := ?vv52) rfl (by kernel_rfl) (by kernel_rfl) (by kernel_rfl) (fun _ _ _ h => h) (Or.inl ⟨by rfl, ?hy52⟩) (by assumption) ?rest52
        case hy52 => intro w hSw; (try dsimp only at hSw); go_simp; (try with_reducible rfl)
        (try simp only [Act.put, List.setIfInBounds_toArray, List.set_cons_zero, List.set_cons_succ])
        refine take_at 4 (v := ?vv53) rfl (by kernel_rfl) (by kernel_rfl) (by kernel_rfl) (fun _ _ _ h => h) (Or.inl ⟨by rfl, ?hy53⟩) (by assumption) ?rest53
        case hy53 => intro w hSw; (try dsimp only at hSw); go_simp; (try with_reducible rfl)
        (try simp only [Act.put, List.setIfInBounds_toArray, List.set_cons_zero, List.set_cons_succ])
        refine take_at 5 (v := ?vv54) rfl (by kernel_rfl) (by kernel_rfl) (by kernel_rfl) (fun _ _ _ h => h) (Or.inl ⟨by rfl, ?hy54⟩) (by assumption) ?rest54
        case hy54 => intro w hSw; (try dsimp only at hSw); go_simp; (try with_reducible rfl)
        (try simp only [Act.put, List.setIfInBounds_toArray, List.set_cons_zero, List.set_cons_succ])
        refine take_at 6 (v := ?vv55) rfl (by kernel_rfl) (by kernel_rfl) (by kernel_rfl) (fun _ _ _ h => h) (Or.inl ⟨by rfl, ?hy55⟩) (by assumption) ?rest55
        case hy55 => intro w hSw; (try dsimp only at hSw); go_simp; (try with_reducible rfl)
        (try simp only [Act.put, List.setIfInBounds_toArray, List.set_cons_zero, List.set_cons_succ])
        refine take_at 7 (v := ?vv56) rfl (by kernel_rfl) (by kernel_rfl) (by kernel_rfl) (fun _ _ _ h => h) (Or.inl ⟨by rfl, ?hy56⟩) (by assumption) ?rest56
        case hy56 => intro w hSw; (try dsimp only at hSw); go_simp; (try with_reducible rfl)
        (try simp only [Act.put, List.setIfInBounds_toArray, List.set_cons_zero, List.set_cons_succ])
        refine take_at 8 (v := ?vv57) rfl (by kernel_rfl) (by kernel_rfl) (by kernel_rfl) (fun _ _ _ h => h) (Or.inl ⟨by rfl, ?hy57⟩) (by assumption) ?rest57
        case hy57 => intro w hSw; (try dsimp only at hSw); go_simp; (try with_reducible rfl)
        (try simp only [Act.put, List.setIfInBounds_toArray, List.set_cons_zero, List.set_cons_succ])
        refine take_at 9 (v := ?vv58) rfl (by kernel_rfl) (by kernel_rfl) (by kernel_rfl) (fun _ _ _ h => h) (Or.inl ⟨by rfl, ?hy58⟩) (by assumption) ?rest58
        case hy58 => intro w hSw; (try dsimp only at hSw); go_simp; (try with_reducible rfl)
        (try simp only [Act.put, List.setIfInBounds_toArray, List.set_cons_zero, List.set_cons_succ])
        refine take_at 10 (v := ?vv59) rfl (by kernel_rfl) (by kernel_rfl) (by kernel_rfl) (fun _ _ _ h => h) (Or.inl ⟨by rfl, ?hy59⟩) (by assumption) ?rest59
        case hy59 => intro w hSw; (try dsimp only at hSw); go_simp; (try with_reducible rfl)
        (try simp only [Act.put, List.setIfInBounds_toArray, List.set_cons_zero, List.set_cons_succ])
        refine take_at 12 (v := ?vv60) rfl (by kernel_rfl) (by kernel_rfl) (by kernel_rfl) (fun _ _ _ h => h) (Or.inl ⟨by rfl, ?hy60⟩) (by assumption) ?rest60
        case hy60 => intro w hSw; (try dsimp only at hSw); go_simp; (try with_reducible rfl)
        (try simp only [Act.put, List.setIfInBounds_toArray, List.set_cons_zero, List.set_cons_succ])
        refine ready_at 11 rfl (by kernel_rfl) (fun K hK => ?_)
        go_simp
        refine (HCO.out _ hHeld.2.2).mono ?_
        rintro r wb ⟨rfl, hbb⟩
        have hBb := Lib.hid (below_step hHeld.2.2 hbb)
        clear hHeld hbb
        first
          | refine hK.out _ _ ?hS61 (fun hHeld => ?rest61)
          | (go_wp2_with fail; refine hK.out _ _ ?hS61 (fun hHeld => ?rest61))
        case hS61 => exact ⟨(HCL.out _ hBb.out).1, (HCL.out _ hBb.out).2, hBb.out⟩
        clear hK K
        (try simp only [Act.put, List.setIfInBounds_toArray, List.set_cons_zero, List.set_cons_succ])
        refine ready_at 13 rfl (by kernel_rfl) (fun K hK => ?_)
        go_simp
        refine (HRN.out _ hHeld.2.2).mono ?_
        rintro r wc ⟨vc, rfl, hoc, hbc⟩
        obtain ⟨pc, cc, hvc, _⟩ := hoc.open
        rw [HCN.out] at hvc
        subst hvc
        have hBc := Lib.hid (below_step hHeld.2.2 hbc)
        clear hHeld hbc hoc
        first
          | refine hK.out _ _ ?hS62 (fun hHeld => ?rest62)
          | (go_wp2_with fail; refine hK.out _ _ ?hS62 (fun hHeld => ?rest62))
        case hS62 => exact ⟨(HCL.out _ hBc.out).1, (HCL.out _ hBc.out).2, hBc.out⟩
        clear hK K
        (try simp only [Act.put, List.setIfInBounds_toArray, List.set_cons_zero, List.set_cons_succ])
        refine take_at 14 (v := ?vv63) rfl (by kernel_rfl) (by kernel_rfl) (by kernel_rfl) (fun _ _ _ h => h) (Or.inl ⟨by rfl, ?hy63⟩) (by assumption) ?rest63
        case hy63 => intro w hSw; (try dsimp only at hSw); go_simp; (try with_reducible rfl)
        (try simp only [Act.put, List.setIfInBounds_toArray, List.set_cons_zero, List.set_cons_succ])
        refine take_at 15 (v := ?vv64) rfl (by kernel_rfl) (by kernel_rfl) (by kernel_rfl) (fun _ _ _ h => h) (Or.inl ⟨by rfl, ?hy64⟩) (by assumption) ?rest64
        case hy64 => intro w hSw; (try dsimp only at hSw); go_simp; (try with_reducible rfl)
        (try simp only [Act.put, List.setIfInBounds_toArray, List.set_cons_zero, List.set_cons_succ])
        refine take_at 16 (v := ?vv65) rfl (by kernel_rfl) (by kernel_rfl) (by kernel_rfl) (fun _ _ _ h => h) (Or.inl ⟨by rfl, ?hy65⟩) (by assumption) ?rest65
        case hy65 => intro w hSw; (try dsimp only at hSw); go_simp; (try with_reducible rfl)
        (try simp only [Act.put, List.setIfInBounds_toArray, List.set_cons_zero, List.set_cons_succ])
        refine take_at 17 (v := ?vv66) rfl (by kernel_rfl) (by kernel_rfl) (by kernel_rfl) (fun _ _ _ h => h) (Or.inl ⟨by rfl, ?hy66⟩) (by assumption) ?rest66
        case hy66 => intro w hSw; (try dsimp only at hSw); go_simp; (try with_reducible rfl)
        (try simp only [Act.put, List.setIfInBounds_toArray, List.set_cons_zero, List.set_cons_succ])
        refine take_at 18 (v := ?vv67) rfl (by kernel_rfl) (by kernel_rfl) (by kernel_rfl) (fun _ _ _ h => h) (Or.inl ⟨by rfl, ?hy67⟩) (by assumption) ?rest67
        case hy67 => intro w hSw; (try dsimp only at hSw); go_simp; (try with_reducible rfl)
        (try simp only [Act.put, List.setIfInBounds_toArray, List.set_cons_zero, List.set_cons_succ])
        refine take_at 19 (v := ?vv68) rfl (by kernel_rfl) (by kernel_rfl) (by kernel_rfl) (fun _ _ _ h => h) (Or.inl ⟨by rfl, ?hy68⟩) (by assumption) ?rest68
        case hy68 => intro w hSw; (try dsimp only at hSw); go_simp; (try with_reducible rfl)
        (try simp only [Act.put, List.setIfInBounds_toArray, List.set_cons_zero, List.set_cons_succ])
        refine take_at 20 (v := ?vv69) rfl (by kernel_rfl) (by kernel_rfl) (by kernel_rfl) (fun _ _ _ h => h) (Or.inl ⟨by rfl, ?hy69⟩) (by assumption) ?rest69
        case hy69 => intro w hSw; (try dsimp only at hSw); go_simp; (try with_reducible rfl)
        (try simp only [Act.put, List.setIfInBounds_toArray, List.set_cons_zero, List.set_cons_succ])
        refine take_at 21 (v := ?vv70) rfl (by kernel_rfl) (by kernel_rfl) (by kernel_rfl) (fun _ _ _ h => h) (Or.inl ⟨by rfl, ?hy70⟩) (by assumption) ?rest70
        case hy70 => intro w hSw; (try dsimp only at hSw); go_simp; (try with_reducible rfl)
        (try simp only [Act.put, List.setIfInBounds_toArray, List.set_cons_zero, List.set_cons_succ])
        refine take_at 22 (v := ?vv71) rfl (by kernel_rfl) (by kernel_rfl) (by kernel_rfl) (fun _ _ _ h => h) (Or.inl ⟨by rfl, ?hy71⟩) (by assumption) ?rest71
        case hy71 => intro w hSw; (try dsimp only at hSw); go_simp; (try with_reducible rfl)
        (try simp only [Act.put, List.setIfInBounds_toArray, List.set_cons_zero, List.set_cons_succ])
        refine take_at 24 (v := ?vv72) rfl (by kernel_rfl) (by kernel_rfl) (by kernel_rfl) (fun _ _ _ h => h) (Or.inl ⟨by rfl, ?hy72⟩) (by assumption) ?rest72
        case hy72 => intro w hSw; (try dsimp only at hSw); go_simp; (try with_reducible rfl)
        (try simp only [Act.put, List.setIfInBounds_toArray, List.set_cons_zero, List.set_cons_succ])
        refine take_at 25 (v := ?vv73) rfl (by kernel_rfl) (by kernel_rfl) (by kernel_rfl) (fun _ _ _ h => h) (Or.inl ⟨by rfl, ?hy73⟩) (by assumption) ?rest73
        case hy73 => intro w hSw; (try dsimp only at hSw); go_simp; (try with_reducible rfl)
        (try simp only [Act.put, List.setIfInBounds_toArray, List.set_cons_zero, List.set_cons_succ])
        refine take_at 26 (v := ?vv74) rfl (by kernel_rfl) (by kernel_rfl) (by kernel_rfl) (fun _ _ _ h => h) (Or.inl ⟨by rfl, ?hy74⟩) (by assumption) ?rest74
        case hy74 => intro w hSw; (try dsimp only at hSw); go_simp; (try with_reducible rfl)
        (try simp only [Act.put, List.setIfInBounds_toArray, List.set_cons_zero, List.set_cons_succ])
        refine take_at 27 (v := ?vv75) rfl (by kernel_rfl) (by kernel_rfl) (by kernel_rfl) (fun _ _ _ h => h) (Or.inl ⟨by rfl, ?hy75⟩) (by assumption) ?rest75
        case hy75 => intro w hSw; (try dsimp only at hSw); go_simp; (try with_reducible rfl)
        (try simp only [Act.put, List.setIfInBounds_toArray, List.set_cons_zero, List.set_cons_succ])
        refine take_at 28 (v := ?vv76) rfl (by kernel_rfl) (by kernel_rfl) (by kernel_rfl) (fun _ _ _ h => h) (Or.inl ⟨by rfl, ?hy76⟩) (by assumption) ?rest76
        case hy76 => intro w hSw; (try dsimp only at hSw); go_simp; (try with_reducible rfl)
        (try simp only [Act.put, List.setIfInBounds_toArray, List.set_cons_zero, List.set_cons_succ])
        refine ready_at 23 rfl (by kernel_rfl) (fun K hK => ?_)
        go_simp
        refine (HLI.out _ hHeld.2.2).mono ?_
        rintro r wd ⟨pd, nd, cd, rfl, hgd, _, _, _, _, hbd⟩
        have HGD := Lib.hid hgd
        have HND : Hid (nd ≤ 2097216) := Lib.hid (by have h1 := hgd.len; have h2 := HLL2.out; omega)
        have hBd := Lib.hid (below_step hHeld.2.2 hbd)
        clear hHeld hbd hgd
        first
          | refine hK.out _ _ ?hS77 (fun hHeld => ?rest77)
          | (go_wp2_with fail; refine hK.out _ _ ?hS77 (fun hHeld => ?rest77))
        case hS77 => exact ⟨(HCL.out _ hBd.out).1, (HCL.out _ hBd.out).2, hBd.out⟩
        clear hK K
        (try simp only [Act.put, List.setIfInBounds_toArray, List.set_cons_zero, List.set_cons_succ])
        refine ready_at 29 rfl (by kernel_rfl) (fun K hK => ?_)
        go_simp
        refine (HRL.out _ hHeld.2.2).mono ?_
        rintro r we ⟨ve, rfl, hge, hbe⟩
        obtain ⟨pe, ce, hve, _⟩ := hge.open
        obtain ⟨ne, hne⟩ : ∃ x, (listT L2 ya yn).length = x := ⟨_, rfl⟩
        rw [hne] at hve
        subst hve
        have HGE2 : Hid (Gs encS we pe ne (listT L2 ya yn)) := Lib.hid hge.gs
        have HGD2 := Lib.hid (HGD.out.later hbe)
        have hBe := Lib.hid (below_step hHeld.2.2 hbe)
        clear hHeld hbe hge hne
        first
          | refine hK.out _ _ ?hS78 (fun hHeld => ?rest78)
          | (go_wp2_with fail; refine hK.out _ _ ?hS78 (fun hHeld => ?rest78))
        case hS78 => exact ⟨(HCL.out _ hBe.out).1, (HCL.out _ hBe.out).2, hBe.out⟩
        clear hK K
        (try simp only [Act.put, List.setIfInBounds_toArray, List.set_cons_zero, List.set_cons_succ])
        refine ready_at 30 rfl (by kernel_rfl) (fun K hK => ?_)
        go_simp
        refine (rtexts21_any pd pe nd cd ne ce _ _ HGD2.out HGE2.out HND.out).mono ?_
        rintro r wf ⟨rfl, qf, hwf⟩
        have hbf : Below we.heap.size we wf := by rw [hwf]; exact below_drewN (Below.refl _ _) qf
        clear hwf
        have hBf := Lib.hid (below_step hHeld.2.2 hbf)
        clear hHeld hbf
        first
          | refine hK.out _ _ ?hS79 (fun hHeld => ?rest79)
          | (go_wp2_with fail; refine hK.out _ _ ?hS79 (fun hHeld => ?rest79))
        case hS79 => exact ⟨(HCL.out _ hBf.out).1, (HCL.out _ hBf.out).2, hBf.out⟩
        clear hK K
        (try simp only [Act.put, List.setIfInBounds_toArray, List.set_cons_zero, List.set_cons_succ])
        refine take_at 31 (v := ?vv80) rfl (by kernel_rfl) (by kernel_rfl) (by kernel_rfl) (fun _ _ _ h => h) (Or.inl ⟨by rfl, ?hy80⟩) (by assumption) ?rest80
        case hy80 => intro w hSw; (try dsimp only at hSw); go_simp; (try with_reducible rfl)
        (try simp only [Act.put, List.setIfInBounds_toArray, List.set_cons_zero, List.set_cons_succ])
        refine take_at 32 (v := ?vv81) rfl (by kernel_rfl) (by kernel_rfl) (by kernel_rfl) (fun _ _ _ h => h) (Or.inl ⟨by rfl, ?hy81⟩) (by assumption) ?rest81
        case hy81 => intro w hSw; (try dsimp only at hSw); go_simp; (try with_reducible rfl)
        (try simp only [Act.put, List.setIfInBounds_toArray, List.set_cons_zero, List.set_cons_succ])
        refine take_at 33 (v := ?vv82) rfl (by kernel_rfl) (by kernel_rfl) (by kernel_rfl) (fun _ _ _ h => h) (Or.inl ⟨by rfl, ?hy82⟩) (by assumption) ?rest82
        case hy82 => intro w hSw; (try dsimp only at hSw); go_simp; (try with_reducible rfl)
        (try simp only [Act.put, List.setIfInBounds_toArray, List.set_cons_zero, List.set_cons_succ])
        refine take_at 34 (v := ?vv83) rfl (by kernel_rfl) (by kernel_rfl) (by kernel_rfl) (fun _ _ _ h => h) (Or.inl ⟨by rfl, ?hy83⟩) (by assumption) ?rest83
        case hy83 => intro w hSw; (try dsimp only at hSw); go_simp; (try with_reducible rfl)
        (try simp only [Act.put, List.setIfInBounds_toArray, List.set_cons_zero, List.set_cons_succ])
        refine take_at 36 (v := ?vv84) rfl (by kernel_rfl) (by kernel_rfl) (by kernel_rfl) (fun _ _ _ h => h) (Or.inl ⟨by rfl, ?hy84⟩) (by assumption) ?rest84
        case hy84 => intro w hSw; (try dsimp only at hSw); go_simp; (try with_reducible rfl)
        (try simp only [Act.put, List.setIfInBounds_toArray, List.set_cons_zero, List.set_cons_succ])
        refine ready_at 35 rfl (by kernel_rfl) (fun K hK => ?_)
        go_simp
        refine (HNA.out _ hHeld.2.2).mono ?_
        rintro r wg ⟨pg, ng, cg, rfl, hdg, hmg, hbg⟩
        have HDG := Lib.hid hdg
        have HMG := Lib.hid hmg
        have hBg := Lib.hid (below_step hHeld.2.2 hbg)
        clear hHeld hbg hdg hmg
        first
          | refine hK.out _ _ ?hS85 (fun hHeld => ?rest85)
          | (go_wp2_with fail; refine hK.out _ _ ?hS85 (fun hHeld => ?rest85))
        case hS85 => exact ⟨(HCL.out _ hBg.out).1, (HCL.out _ hBg.out).2, hBg.out⟩
        clear hK K
        (try simp only [Act.put, List.setIfInBounds_toArray, List.set_cons_zero, List.set_cons_succ])
        refine ready_at 37 rfl (by kernel_rfl) (fun K hK => ?_)
        go_simp
        refine (HRN.out _ hHeld.2.2).mono ?_
        rintro r wh ⟨vh, rfl, hoh, hbh⟩
        obtain ⟨ph, ch, hvh, _, hmh, hdh, _⟩ := hoh.open
        have HDH := Lib.hid hdh
        have HMH : Hid ((namesT L2).length ≤ maxLen) := Lib.hid (by unfold maxLen; have h1 := HNN2.out; omega)
        rw [HCN.out] at hvh HDH HMH
        subst hvh
        have HDG2 := Lib.hid (HDG.out.later hbh)
        have hBh := Lib.hid (below_step hHeld.2.2 hbh)
        clear hHeld hbh hoh hdh hmh
        first
          | refine hK.out _ _ ?hS86 (fun hHeld => ?rest86)
          | (go_wp2_with fail; refine hK.out _ _ ?hS86 (fun hHeld => ?rest86))
        case hS86 => exact ⟨(HCL.out _ hBh.out).1, (HCL.out _ hBh.out).2, hBh.out⟩
        clear hK K
        (try simp only [Act.put, List.setIfInBounds_toArray, List.set_cons_zero, List.set_cons_succ])
        refine ready_at 38 rfl (by kernel_rfl) (fun K hK => ?_)
        go_simp
        refine (rsame6_refl pg ph ng _ cg ch _ _ HDG2.out HDH.out HMG.out HMH.out).mono ?_
        rintro r wi ⟨rfl, hbi⟩
        have hBi := Lib.hid (below_step hHeld.2.2 hbi)
        clear hHeld hbi
        first
          | refine hK.out _ _ ?hS87 (fun hHeld => ?rest87)
          | (go_wp2_with fail; refine hK.out _ _ ?hS87 (fun hHeld => ?rest87))
        case hS87 => exact ⟨(HCL.out _ hBi.out).1, (HCL.out _ hBi.out).2, hBi.out⟩
        clear hK K
        (try simp only [Act.put, List.setIfInBounds_toArray, List.set_cons_zero, List.set_cons_succ])
        refine take_at 39 (v := ?vv88) rfl (by kernel_rfl) (by kernel_rfl) (by kernel_rfl) (fun _ _ _ h => h) (Or.inl ⟨by rfl, ?hy88⟩) (by assumption) ?rest88
        case hy88 => intro w hSw; (try dsimp only at hSw); go_simp; (try with_reducible rfl)
        (try simp only [Act.put, List.setIfInBounds_toArray, List.set_cons_zero, List.set_cons_succ])
        refine take_at 40 (v := ?vv89) rfl (by kernel_rfl) (by kernel_rfl) (by kernel_rfl) (fun _ _ _ h => h) (Or.inl ⟨by rfl, ?hy89⟩) (by assumption) ?rest89
        case hy89 => intro w hSw; (try dsimp only at hSw); go_simp; (try with_reducible rfl)
        (try simp only [Act.put, List.setIfInBounds_toArray, List.set_cons_zero, List.set_cons_succ])
        refine take_at 41 (v := ?vv90) rfl (by kernel_rfl) (by kernel_rfl) (by kernel_rfl) (fun _ _ _ h => h) (Or.inl ⟨by rfl, ?hy90⟩) (by assumption) ?rest90
        case hy90 => intro w hSw; (try dsimp only at hSw); go_simp; (try with_reducible rfl)
        (try simp only [Act.put, List.setIfInBounds_toArray, List.set_cons_zero, List.set_cons_succ])
        refine take_at 42 (v := ?vv91) rfl (by kernel_rfl) (by kernel_rfl) (by kernel_rfl) (fun _ _ _ h => h) (Or.inl ⟨by rfl, ?hy91⟩) (by assumption) ?rest91
        case hy91 => intro w hSw; (try dsimp only at hSw); go_simp; (try with_reducible rfl)
        (try simp only [Act.put, List.setIfInBounds_toArray, List.set_cons_zero, List.set_cons_succ])
        refine take_at 44 (v := ?vv92) rfl (by kernel_rfl) (by kernel_rfl) (by kernel_rfl) (fun _ _ _ h => h) (Or.inl ⟨by rfl, ?hy92⟩) (by assumption) ?rest92
        case hy92 => intro w hSw; (try dsimp only at hSw); go_simp; (try with_reducible rfl)
        (try simp only [Act.put, List.setIfInBounds_toArray, List.set_cons_zero, List.set_cons_succ])
        refine ready_at 43 rfl (by kernel_rfl) (fun K hK => ?_)
        go_simp
        refine (HRO.out _ hHeld.2.2).mono ?_
        rintro r wj ⟨p9, n9, c9, Ls9, N9, rfl, he9, hr9, hn9, hp9, hl9, hm9, hbj⟩
        have HRE9 := Lib.hid hr9
        have HE9 := Lib.hid he9
        have hBj := Lib.hid (below_step hHeld.2.2 hbj)
        clear hHeld hbj he9 hr9 hn9 hp9 hl9 hm9
        first
          | refine hK.out _ _ ?hS93 (fun hHeld => ?rest93)
          | (go_wp2_with fail; refine hK.out _ _ ?hS93 (fun hHeld => ?rest93))
        case hS93 => exact ⟨(HCL.out _ hBj.out).1, (HCL.out _ hBj.out).2, hBj.out⟩
        clear hK K
        (try simp only [Act.put, List.setIfInBounds_toArray, List.set_cons_zero, List.set_cons_succ])
        refine ready_at 45 rfl (by kernel_rfl) (fun K hK => ?_)
        go_simp
        refine (rsame21_any p9 q4 n9 c9 m4 d4 Ls9 _ _ HRE9.out.gs (HIV8.out.re.later hHeld.2.2).gs (HE9.out.trans HIV8.out.eq.symm) HRE9.out.is (HIV8.out.re.later hHeld.2.2).is HRE9.out.dk (fun z hz => Nat.le_trans (HIN2.out z.e (by rw [← HE9.out]; exact List.mem_map_of_mem hz)) (by omega)) (by have h1 := HRE9.out.gs.len; rw [← ptL_length, HE9.out] at h1; omega)).mono ?_
        rintro r wk ⟨rfl, hbk⟩
        have hBk := Lib.hid (below_step hHeld.2.2 hbk)
        clear hHeld hbk
        first
          | refine hK.out _ _ ?hS94 (fun hHeld => ?rest94)
          | (go_wp2_with fail; refine hK.out _ _ ?hS94 (fun hHeld => ?rest94))
        case hS94 => exact ⟨(HCL.out _ hBk.out).1, (HCL.out _ hBk.out).2, hBk.out⟩
        clear hK K
        (try simp only [Act.put, List.setIfInBounds_toArray, List.set_cons_zero, List.set_cons_succ])
        refine take_at 46 (v := ?vv95) rfl (by kernel_rfl) (by kernel_rfl) (by kernel_rfl) (fun _ _ _ h => h) (Or.inl ⟨by rfl, ?hy95⟩) (by assumption) ?rest95
        case hy95 => intro w hSw; (try dsimp only at hSw); go_simp; (try with_reducible rfl)
        (try simp only [Act.put, List.setIfInBounds_toArray, List.set_cons_zero, List.set_cons_succ])
        refine take_at 47 (v := ?vv96) rfl (by kernel_rfl) (by kernel_rfl) (by kernel_rfl) (fun _ _ _ h => h) (Or.inl ⟨by rfl, ?hy96⟩) (by assumption) ?rest96
        case hy96 => intro w hSw; (try dsimp only at hSw); go_simp; (try with_reducible rfl)
        (try simp only [Act.put, List.setIfInBounds_toArray, List.set_cons_zero, List.set_cons_succ])
        refine wpAnyH_done (by kernel_rfl) ?_ _
        have HBF := Lib.hid hHeld.2.2
        clear hHeld
        have HIN3 := Lib.hid (HIV8.out.later HT.out HBF.out)
        go_wp2
        exact ⟨⟨k + 1, _, _, _, L2, q4, m4, d4, _, by omega, by go_num, rfl, HIN3, HLN2, HIN2⟩, by simp [intOf] <;> omega⟩
    · obtain rfl : k = m := by omega
      have hLL : L.length ≤ 1048576 := by have := HLN.out; omega
      have HRO := Lib.hid (HT.out.row HI.out.ix hLL)
      go_wp2_with (first
        | (go_at_call 23; refine HRO.out.mono ?_; rintro e w8 ⟨p8, n8, c8, Ls8, N8, rfl, he8, hr8, hn8, hp8, hl8, hm8, hb8⟩; have HSM := Lib.hid (rsame21_any p8 q' n8 c8 m' d' Ls8 o w8 hr8.gs (HI.out.re.later hb8).gs (he8.trans HI.out.eq.symm) hr8.is (HI.out.re.later hb8).is hr8.dk (fun z hz => Nat.le_trans (HIN.out z.e (by rw [← he8]; exact List.mem_map_of_mem hz)) (by omega)) (by have h1 := hr8.gs.len; rw [← ptL_length, he8] at h1; omega)); have HB8 := Lib.hid hb8; clear he8 hr8 hn8 hp8 hl8 hm8 hb8)
        | (go_at_call 22; refine HSM.out.mono ?_; rintro e w9 ⟨rfl, hb9⟩; have HB9 := Lib.hid (below_step HB8.out hb9); clear hb9)
        | (go_at_call 24; refine (HLV.out _).mono ?_; rintro e wL ⟨rfl, hbL⟩; have HBL := Lib.hid (below_step HB9.out hbL); clear hbL))
      go_ret
      exact ⟨rfl, below_step HI.out.le HBL.out⟩
end Go.Proofs.Ytieednadbcghjaa

namespace Go.Proofs.Ytieednadbcghjaa
set_option linter.unusedVariables false
open Go.RowKit Go.Lib Go.ChangeShapes Go.WideShapes Go.ChangeAt

theorem cutTq {α : Type} (cs : List α) (h : cs.length = 43) : cs = (cs.drop 0).take 1 ++ ((cs.drop 1).take 39 ++ ((cs.drop 40).take 1 ++ ((cs.drop 41).take 1 ++ (cs.drop 42).take 1))) := by
  have e (a b : Nat) : cs.drop a = (cs.drop a).take b ++ cs.drop (a + b) := by
    rw [← List.drop_drop, List.take_append_drop]
  have h5 : cs.drop 42 = (cs.drop 42).take 1 := by rw [List.take_of_length_le (by rw [List.length_drop]; omega)]
  have h4 := e 41 1
  have h3 := e 40 1
  have h2 := e 1 39
  have h1 := e 0 1
  simp only [Nat.reduceAdd] at h2 h1 h3 h4
  rw [← h5, ← h4, ← h3, ← h2, ← h1, List.drop_zero]
section
variable {H : Type} {enc : TypeId × Value → H} {W : World} {base : Nat} {held : Bool}
set_option maxRecDepth 100000 in
theorem open_tqL (fuel : Nat) (cs : List Value) (x : DataW H × List MemPlace) (h : DataW.trod enc Try.prog W base (fun _ => true) held fuel encTq.t cs = some x) :
    ∃ q : Tq, cs = encTq.f q ∧ (Is W q.s q.B ∧ dok q.w.dg ∧ -9223372036854775808 ≤ q.n ∧ q.n ≤ 9223372036854775807) ∧ q.B.length + 1 ≤ Rows.uptoBulk x.1 := by
  have h' : DataW.trod enc Try.prog W base (fun _ => true) held fuel 36 cs = some x := h
  obtain ⟨y0, y1, y2, y3, y4, m, hx, hl, h0, h1, h2, h3, h4⟩ := trod_structE5 Try.underlying36 h'
  have ec : Try.prog.cellsOf 36 = 43 := by kernel_rfl
  rw [ec] at hl
  have e1 : Try.prog.cellsOf 33 = 39 := by kernel_rfl
  have e2 : Try.prog.cellsOf 3 = 1 := by kernel_rfl
  have e3 : Try.prog.cellsOf 34 = 1 := by kernel_rfl
  have e4 : Try.prog.cellsOf 9 = 1 := by kernel_rfl
  simp only [e1, e2, e3, e4] at h0 h1 h2 h3 h4
  have hc := cutTq cs hl
  have one : ∀ a, a < 43 → ∃ v, (cs.drop a).take 1 = [v] := fun a ha => by
    rw [List.drop_eq_getElem_cons (by omega)]
    exact ⟨_, rfl⟩
  obtain ⟨v0, q0⟩ := one 0 (by omega)
  obtain ⟨v2, q2⟩ := one 40 (by omega)
  obtain ⟨v3, q3⟩ := one 41 (by omega)
  obtain ⟨v4, q4⟩ := one 42 (by omega)
  rw [q0] at h0 hc
  rw [q2] at h2 hc
  rw [q3] at h3 hc
  rw [q4] at h4 hc
  obtain ⟨k, rfl, hw0⟩ := open_int' Try.underlying3 h0
  obtain ⟨w, hwc, hwd⟩ := open_wdL _ _ _ h1
  obtain ⟨B, hB, hBo, hBb⟩ := open_intsC h2
  obtain ⟨p, c, rfl, hg⟩ := hB
  obtain ⟨a, rfl, _, _⟩ := open_str' Try.underlying9 h3
  obtain ⟨n, rfl, hnw⟩ := open_int' Try.underlying3 h4
  obtain ⟨hn1, hn2⟩ := wf_i64 hnw
  refine ⟨⟨k, w, hwd.1, p, c, B, a, n⟩, ?_, ⟨⟨p, c, rfl, hg⟩, hwd, hn1, hn2⟩, ?_⟩
  · rw [hc, hwc]
    rfl
  · rw [hx]
    simp only [Rows.uptoBulk, Rows.uptoBulkAll]
    omega
theorem open_tdeeds {fuel : Nat} {a0 : Option Addr} {len cap : Nat} {x : DataW H × List MemPlace}
    (h : DataW.trod enc Try.prog W base (fun _ => true) held fuel 23 [.slice a0 len cap] = some x) :
    ∃ L : List Tq, Gs encTq W a0 len L ∧ (∀ q ∈ L, Is W q.s q.B ∧ dok q.w.dg ∧ q.B.length ≤ Rows.uptoBulk x.1 ∧ -9223372036854775808 ≤ q.n ∧ q.n ≤ 9223372036854775807) ∧ len + 1 ≤ Rows.uptoBulk x.1 := by
  obtain ⟨hl0, hm0, hp0, L, hL, hLo, hLs⟩ := open_gs encTq Try.underlying23 (by kernel_rfl) (fun q => q.B.length + 1) (fun q => Is W q.s q.B ∧ dok q.w.dg ∧ -9223372036854775808 ≤ q.n ∧ q.n ≤ 9223372036854775807) open_tqL h
  obtain ⟨K, h1, h2⟩ := sum_max (fun q : Tq => q.B.length) (fun q => q.B.length + 1) (fun _ => Nat.le_refl _) L
  have h3 := hL.len
  exact ⟨L, hL, fun q hq => ⟨(hLo q hq).1, (hLo q hq).2.1, by have := h1 q hq; omega, (hLo q hq).2.2⟩, by omega⟩
end
end Go.Proofs.Ytieednadbcghjaa

namespace Go.Proofs.Ytieednadbcghjaa
set_option linter.unusedVariables false
open Go.RowKit Go.Lib

theorem listT_none (L : List Pt) (a : ByteArray) {n : Int} (h : n < 1) : listT L a n = [] := by
  unfold listT
  rw [show n.toNat = 0 by omega, List.take_zero]
theorem aftN_some {pg : List ByteArray} {s x : ByteArray} {m : Nat} (hm : pg.length = m + 1) (hx : pg.getD m ⟨#[]⟩ = x) : aftN pg s = x := by
  unfold aftN
  rw [List.getLast?_eq_getElem?, hm, Nat.add_sub_cancel, ← hx, List.getD_eq_getElem?_getD, List.getElem?_eq_getElem (by omega)]
  rfl
theorem aftN_none (s : ByteArray) : aftN [] s = s := rfl
theorem PgI.alen {E : List ByteArray} {n i : Nat} {all : List ByteArray} {after : ByteArray} (h : PgI E n i all after) : all.length ≤ E.length := by
  rw [h.al]
  exact Nat.le_trans (List.length_take_le' _ _) (List.length_filter_le _ _)
set_option maxRecDepth 100000 in
set_option maxHeartbeats 4000000 in
theorem tagspages_any {Ix : World → (Nat → Prop) → (Nat → Prop) → Value → List Pt → Prop} (hT : TagOk Ix) (p : Option Addr) (n c : Nat) (Ls : List Tx) (N : Int) (K : Nat) (w : World)
    (hR : ReT w (fun b => b < w.heap.size) p n Ls) (hpc : p = none → c = 0) (hnc : n ≤ c) (hcm : c ≤ maxLen) (hil : insLeT (ptL Ls) K) (hN1 : -9223372036854775808 ≤ N) (hN2 : N ≤ 9223372036854775807) (hnm : n ≤ 1048575) (hkm : K ≤ 1048576) :
    Calls Try.prog 4 #[.slice p n c, .int .i64 N] w fun e w' => e = .returned (.bool true) ∧ Below w.heap.size w w' := by
  have HT := Lib.hid hT
  have HNW := Lib.hid (hT.new hR hpc hnc hcm (by omega) (fun x hx => Nat.le_trans (hil x hx) (by omega)))
  have HLV := Lib.hid fun W => lives21_any hT W
  have HNL : Hid ((newT (ptL Ls)).length ≤ n) := Lib.hid (by have h1 := newT_length (ptL Ls); rw [ptL_length, hR.gs.len] at h1; exact h1)
  obtain ⟨L, hL⟩ : ∃ L, newT (ptL Ls) = L := ⟨_, rfl⟩
  unfold NewGQ at HNW
  rw [hL] at HNW HNL
  have hLL : L.length ≤ 1048576 := by have := HNL.out; omega
  have HLL := Lib.hid hLL
  clear hT hR hil hL
  by_cases hn1 : N < 1
  · go_enter Try.func4, Try.ntmps4
    go_wp2_with (first
      | (go_at_call 6; refine HNW.out.mono ?_; rintro e w1 ⟨v, S, F, rfl, hx1, hs1, hf1, hb1⟩; have HLI := Lib.hid (HT.out.list ⟨#[]⟩ N hx1 hLL hN1 hN2); rw [listT_none _ _ hn1] at HLI; have HB1 := Lib.hid hb1; clear hx1 hs1 hf1 hb1)
      | (go_at_call 18; refine HLI.out.mono ?_; rintro e w4 ⟨p4, n4, c4, rfl, hg4, _, _, _, _, hb4⟩; have hn4 : n4 = 0 := hg4.len.symm; subst hn4; have HB4 := Lib.hid (below_step HB1.out hb4); clear hg4 hb4)
      | (go_at_call 24; refine (HLV.out _).mono ?_; rintro e wL ⟨rfl, hbL⟩; have HBL := Lib.hid (below_step HB4.out hbL); clear hbL))
    go_ret
    exact ⟨rfl, HBL.out⟩
  · obtain ⟨nn, hnn⟩ : ∃ nn : Nat, N = (nn : Int) := ⟨N.toNat, by omega⟩
    have hnn1 : 1 ≤ nn := by omega
    subst hnn
    have HN0 : Hid (∀ s, listT L s (nn : Int) = ((nmT L).filter (nlt s)).take nn) := Lib.hid fun s => by rw [listT_nm]; rfl
    have HLT : Hid (listT L ⟨#[]⟩ (n : Int) = (nmT L).filter (nlt ⟨#[]⟩)) := Lib.hid (by
      rw [listT_nm]
      refine List.take_of_length_le (Nat.le_trans (List.length_filter_le _ _) (Nat.le_trans (nmT_le L) ?_))
      have := HNL.out
      omega)
    have HEL : Hid ((nmT L).length ≤ n) := Lib.hid (Nat.le_trans (nmT_le L) HNL.out)
    have hlt1 : ¬ (nn : Int) < 1 := hn1
    go_enter Try.func4, Try.ntmps4
    go_wp2_with (go_at_call 6; refine HNW.out.mono ?_; rintro e w1 ⟨v, S, F, rfl, hx1, hs1, hf1, hb1⟩; have HX1 := Lib.hid hx1; have HB1 := Lib.hid hb1; have HE := Lib.hid (nmT_rises (HT.out.ok hx1).1); clear hx1 hs1 hf1 hb1)
    go_loopw [6, 7, 8] (fun av sv j wr => ∃ (k : Nat) (o : List ByteArray) (s : ByteArray), k ≤ n + 1 ∧ j = .int .i64 (k : Int) ∧ sv = .string s ∧ Hid (Gw encS wr w1.heap.size av o) ∧ Hid (PgI (nmT L) nn k o s) ∧ Hid (Below w1.heap.size w1 wr)) (fun _ _ j _ => n + 1 - (intOf j).toNat)
    case atStart => exact ⟨0, [], ⟨#[]⟩, by omega, rfl, rfl, Lib.hid (Gw.nil _ _ _), Lib.hid (PgI.start _ _), Lib.hid (Below.refl _ _)⟩
    case round =>
      obtain ⟨k, o, s, hkn, rfl, rfl, HO, HP, HB⟩ := hrel
      by_cases hle : k ≤ n
      · have hki : (k : Int) ≤ (n : Int) := by omega
        have HXR := Lib.hid (HT.out.later HX1.out HB.out)
        have HLI := Lib.hid (HT.out.list s (nn : Int) HXR.out hLL hN1 hN2)
        have HPS := Lib.hid (HP.out.step HE.out hnn1)
        have HFL : Hid (∀ b, F b → b < w1.heap.size) := Lib.hid fun b hb => HT.out.lt HX1.out b (Or.inr hb)
        rw [HN0.out s] at HLI
        obtain ⟨pg, hpg⟩ : ∃ x, ((nmT L).filter (nlt s)).take nn = x := ⟨_, rfl⟩
        have HPL : Hid (pg.length ≤ nn ∧ pg.length ≤ (nmT L).length) := Lib.hid (by
          rw [← hpg]
          refine ⟨List.length_take_le _ _, Nat.le_trans (List.length_take_le' _ _) (List.length_filter_le _ _)⟩)
        rw [hpg] at HLI HPS
        have HOL : Hid (o.length ≤ (nmT L).length) := Lib.hid HP.out.alen
        clear hpg
        go_upto_region 10 with (go_at_call 18; refine HLI.out.mono ?_; rintro e w4 ⟨p4, n4, c4, rfl, hg4, hn4, hp4, _, _, hb4⟩)
        have HG4 := Lib.hid hg4
        have HNB := Lib.hid hn4
        have HPC := Lib.hid hp4
        have HB4 := Lib.hid (below_step HB.out hb4)
        have HO4 := Lib.hid (HO.out.later hb4)
        have HOW : Hid (∀ j, Value.ownBlock _ = some j → w1.heap.size ≤ j ∧ j < wr.heap.size) := Lib.hid (fun j hj => HO.out.lt j hj)
        have hl4 := hg4.len
        have hgt : ¬ (nn : Int) < (n4 : Int) := by have := HPL.out; omega
        have HZ : Hid (o.length + n4 ≤ 2097216) := Lib.hid (by have h1 := HPL.out; have h2 := HOL.out; have h3 := HEL.out; omega)
        clear hg4 hn4 hp4 hb4
        go_upto_region 13 with (refine wpList_append_gen encS rfl _ _ 51 rfl Try.underlying51 (.string ⟨#[]⟩) 16 infoS rfl (by decide) w1.heap.size _ o rfl HO4.out p4 n4 c4 pg rfl HG4.out HPC.out HZ.out HB4.out.size ?_; intro v5 w5 ho5 hg5)
        have HO5 := Lib.hid ho5
        have HB5 := Lib.hid (below_new_gw HB4.out HO4.out hg5 HB4.out.size)
        have HG5 : Hid (Gs encS w5 p4 n4 pg) := Lib.hid (HG4.out.hold fun hn0 b off e => by
          subst e
          refine hg5.block b (HG4.out.block_lt (by omega)) (fun e => ?_)
          have h1 := HOW.out b e.symm
          rcases HNB.out hn0 b off rfl with h2 | h2
          · have := HFL.out b h2; omega
          · omega)
        clear ho5 hg5
        by_cases h0 : 0 < n4
        · obtain ⟨m4, rfl⟩ : ∃ m4, n4 = m4 + 1 := ⟨n4 - 1, by omega⟩
          obtain ⟨b, off, rfl, c5⟩ := HG5.out.str m4 (by omega)
          obtain ⟨x, hx⟩ : ∃ x, pg.getD m4 ⟨#[]⟩ = x := ⟨_, rfl⟩
          rw [hx] at c5
          have HAF := Lib.hid (aftN_some (s := s) hl4 hx)
          rw [HAF.out] at HPS
          have hgt0 : (0 : Int) < ((m4 + 1 : Nat) : Int) := by omega
          have hsub : ((m4 + 1 : Nat) : Int) - 1 = (m4 : Int) := by omega
          have hm0 : (0 : Int) ≤ (m4 : Int) := by omega
          have hm1 : (m4 : Int) < ((m4 + 1 : Nat) : Int) := by omega
          have hmb : m4 ≤ 2097216 := by have := HZ.out; omega
          have hwr : IntKind.i64.wrap (((m4 + 1 : Nat) : Int) - 1) = (m4 : Int) := by rw [IntKind.wrap_i64]; omega
          clear hx hl4 hgt
          go_wp2
          exact ⟨⟨k + 1, _, x, by omega, by go_num, rfl, HO5, HPS, HB5⟩, by simp [intOf] <;> omega⟩
        · obtain rfl : n4 = 0 := by omega
          obtain rfl : pg = [] := List.length_eq_zero_iff.1 hl4
          rw [aftN_none] at HPS
          clear hl4 hgt
          go_wp2
          exact ⟨⟨k + 1, _, s, by omega, by go_num, rfl, HO5, HPS, HB5⟩, by simp [intOf] <;> omega⟩
      · have hki : ¬ (k : Int) ≤ (n : Int) := by omega
        have HAL : Hid (o = (nmT L).filter (nlt ⟨#[]⟩)) := Lib.hid (HP.out.all hnn1 (by have := HEL.out; omega))
        have HXR := Lib.hid (HT.out.later HX1.out HB.out)
        have HGE := Lib.hid (HT.out.get ⟨#[]⟩ HXR.out)
        have HRW := Lib.hid (HT.out.ok HX1.out).1
        obtain ⟨R, hR⟩ : ∃ R, getTR L ⟨#[]⟩ = R := ⟨_, rfl⟩
        have HR := Lib.hid hR
        rw [hR] at HGE
        have HRD : Hid (dok R.1.dg) := Lib.hid (by
          rw [← hR]
          unfold getTR
          cases hge : getT L ⟨#[]⟩ with
          | none => exact dz32_ok
          | some z => exact (HT.out.ok HXR.out).2 z (getT_mem hge).1)
        obtain ⟨R, ok⟩ := R
        dsimp only at HRD
        clear hR
        go_upto_region 16 with (first
          | (go_at_call 12; refine HGE.out.mono ?_; rintro e w5 ⟨s5, rfl, hi5, _, hb5⟩; have HB5 := Lib.hid hb5; obtain ⟨p5, c5, rfl, _⟩ := hi5; clear hb5)
          | (refine wpList_store_row rfl 42 _ _ rfl w5.heap.size (tnC R _) rfl rfl 42 _ (heap_alloc_new _ _) (tnC_sizeOf R _ HRD.out.1) ((tnC_size zeroT _ rfl).trans (tnC_size R _ HRD.out.1).symm) (tnC_one _ _ _ _) ?_; generalize hw6 : World.setRow _ _ _ = w6))
        obtain ⟨he6, hb6⟩ := tnC_lay rfl hw6
        obtain ⟨g6, hg6⟩ : ∃ g, w5.heap.size = g := ⟨_, rfl⟩
        rw [hg6] at he6
        rw [hg6]
        have HB6 := Lib.hid (below_step HB.out (below_step HB5.out hb6))
        obtain ⟨_, cg, _, _⟩ := he6.cells HRD.out.1
        obtain ⟨g, hg⟩ : ∃ x, R.gone = x := ⟨_, rfl⟩
        rw [hg] at cg
        have HG := Lib.hid hg
        have HO6 := Lib.hid (HO.out.later (below_step HB5.out hb6))
        have HX6 := Lib.hid (HT.out.later HXR.out (below_step HB5.out hb6))
        clear he6 hb6 hw6 hg6 hg
        by_cases hyes : ok = true ∧ g = false
        · obtain ⟨rfl, rfl⟩ := hyes
          go_wp2_with (go_at_call 24; refine (HLV.out _).mono ?_; rintro e wL ⟨rfl, hbL⟩; have HBL := Lib.hid (below_step (below_step HB1.out HB6.out) hbL); clear hbL)
          go_ret
          exact ⟨rfl, HBL.out⟩
        · have HNG : Hid ((⟨#[]⟩ : ByteArray) ∉ nmT L) := Lib.hid (nil_gone HRW.out (by
            rw [HR.out]
            dsimp only
            rw [HG.out]
            exact hyes))
          have HLI := Lib.hid (HT.out.list ⟨#[]⟩ (n : Int) HX6.out hLL (by omega) (by omega))
          rw [HLT.out, ← HAL.out] at HLI
          have HCO := Lib.hid fun W (hW : Below w6.heap.size w6 W) => HT.out.count (HT.out.later HX6.out hW) hLL
          have HCN : Hid ((namesT L).length = o.length) := Lib.hid (by rw [HAL.out, filter_nil HNG.out, nmT_length])
          rw [HCN.out] at HCO
          obtain ⟨q0, c0, hv0, _, _, hgs0, _⟩ := HO6.out.open
          subst hv0
          have HGS0 := Lib.hid hgs0
          have HOL : Hid (o.length ≤ 2097216) := Lib.hid (by have h1 := HP.out.alen; have h2 := HEL.out; omega)
          clear hgs0
          cases ok with
          | false =>
            clear hyes
            go_wp2_with (first
              | (go_at_call 18; refine HLI.out.mono ?_; rintro e w7 ⟨p7, n7, c7, rfl, hg7, _, _, _, _, hb7⟩; have HG7 := Lib.hid hg7; have HS7 := Lib.hid (HGS0.out.later hb7); have HB7 := Lib.hid hb7; clear hg7 hb7)
              | (go_at_call 17; refine (rtexts21_any q0 p7 o.length c0 n7 c7 o w7 HS7.out HG7.out HOL.out).mono ?_; rintro e w8 ⟨rfl, q8, hw8⟩; have HB8 : Hid (Below w6.heap.size w6 w8) := Lib.hid (by rw [hw8]; exact below_drewN HB7.out q8); have HCO8 := Lib.hid (HCO.out w8 HB8.out); clear hw8)
              | (go_at_call 15; refine HCO8.out.mono ?_; rintro e w9 ⟨rfl, hb9⟩; have HB9 := Lib.hid (below_step HB8.out hb9); clear hb9)
              | (go_at_call 24; refine (HLV.out _).mono ?_; rintro e wL ⟨rfl, hbL⟩; have HBL := Lib.hid (below_step HB9.out hbL); clear hbL))
            go_ret
            exact ⟨rfl, below_step HB1.out (below_step HB6.out HBL.out)⟩
          | true =>
            cases g with
            | false => exact absurd ⟨rfl, rfl⟩ hyes
            | true =>
              clear hyes
              go_wp2_with (first
                | (go_at_call 18; refine HLI.out.mono ?_; rintro e w7 ⟨p7, n7, c7, rfl, hg7, _, _, _, _, hb7⟩; have HG7 := Lib.hid hg7; have HS7 := Lib.hid (HGS0.out.later hb7); have HB7 := Lib.hid hb7; clear hg7 hb7)
                | (go_at_call 17; refine (rtexts21_any q0 p7 o.length c0 n7 c7 o w7 HS7.out HG7.out HOL.out).mono ?_; rintro e w8 ⟨rfl, q8, hw8⟩; have HB8 : Hid (Below w6.heap.size w6 w8) := Lib.hid (by rw [hw8]; exact below_drewN HB7.out q8); have HCO8 := Lib.hid (HCO.out w8 HB8.out); clear hw8)
                | (go_at_call 15; refine HCO8.out.mono ?_; rintro e w9 ⟨rfl, hb9⟩; have HB9 := Lib.hid (below_step HB8.out hb9); clear hb9)
                | (go_at_call 24; refine (HLV.out _).mono ?_; rintro e wL ⟨rfl, hbL⟩; have HBL := Lib.hid (below_step HB9.out hbL); clear hbL))
              go_ret
              exact ⟨rfl, below_step HB1.out (below_step HB6.out HBL.out)⟩
end Go.Proofs.Ytieednadbcghjaa
