/- The reference of layer 21: List, Names, Texts; Layer 21: what the laws want of package tags; Layer 21: one entry; a word laid (cut out of TagL); Layer 22, the law: what a state has of a digest and of a name, under what is said of package state. (gen_stara.py); Layer 22: deeds in memory; a state and the reference's beside it, between deeds. (gen_stad.py) -/
import Derived.Test.YtpfbfhigelbfcaaGreatSa1
import Derived.Test.YtpfbfhigelbfcaaGreatSa3
import Derived.Test.YtpfbfhigelbfcaaGreatSa6
import Derived.Test.YtpfbfhigelbfcaaGreatSa7
import Derived.Test.YtpfbfhigelbfcaaGreatSa10
import Derived.Test.YtpfbfhigelbfcaaGreatSa11
import Derived.Test.YtpfbfhigelbfcaaGreatSa16
import Derived.Test.YtpfbfhigelbfcaaGreatSa17
import Derived.Test.YtpfbfhigelbfcaaGreatSa18
set_option linter.unusedSimpArgs false
set_option linter.unusedVariables false
namespace Go.Proofs.YtpfbfhigelbfcaaGreat
open Go.RowKit Go.Lib
theorem Gs.str {w : World} {p : Option Addr} {n : Nat} {L : List ByteArray} (h : Gs encS w p n L) (j : Nat) (hj : j < n) : ∃ b off, p = some ⟨b, off, none⟩ ∧ w.cell? ⟨b, off + j, none⟩ = some (.string (L.getD j ⟨#[]⟩)) := by
  obtain ⟨b, off, hp, hc⟩ := h.ptr j hj
  have := hc 0 _ rfl
  rw [show encS.k = 1 from rfl, Nat.mul_one, Nat.add_zero] at this
  exact ⟨b, off, hp, this⟩
theorem listT_take {L : List Pt} {k : Nat} {x : Pt} (h : L[k]? = some x) (a : ByteArray) (N : Int) : listT (L.take (k + 1)) a N = if x.gone = false ∧ nlt a x.nm = true ∧ ((listT (L.take k) a N).length : Int) < N then listT (L.take k) a N ++ [x.nm] else listT (L.take k) a N := by
  obtain ⟨h2, h3⟩ := List.getElem?_eq_some_iff.1 h
  unfold listT
  rw [List.take_succ_eq_append_getElem h2, h3, List.filter_append, List.map_append]
  generalize (((L.take k).filter fun e => !e.gone && nlt a e.nm).map (·.nm)) = F
  by_cases h1 : x.gone = false ∧ nlt a x.nm = true
  · obtain ⟨h4, h5⟩ := h1
    rw [List.filter_cons_of_pos (by simp [h4, h5]), List.filter_nil, List.map_cons, List.map_nil]
    by_cases h6 : F.length < N.toNat
    · rw [if_pos ⟨h4, h5, by rw [List.length_take]; omega⟩, List.take_of_length_le (l := F) (by omega), List.take_of_length_le (by rw [List.length_append, List.length_singleton]; omega)]
    · rw [if_neg (fun h => by have h7 := h.2.2; rw [List.length_take] at h7; omega), List.take_append_of_le_length (by omega)]
  · rw [List.filter_cons_of_neg (by simpa using h1), List.filter_nil, List.map_nil, List.append_nil, if_neg (fun h => h1 ⟨h.1, h.2.1⟩)]
theorem listT_le (L : List Pt) (a : ByteArray) (N : Int) (k : Nat) : (listT (L.take k) a N).length ≤ k := by
  unfold listT
  rw [List.length_take, List.length_map]
  have h1 := List.length_filter_le (fun e : Pt => !e.gone && nlt a e.nm) (L.take k)
  rw [List.length_take] at h1
  omega
set_option maxRecDepth 100000 in
set_option maxHeartbeats 2000000 in
theorem rlist21_any (p : Option Addr) (n c : Nat) (L : List Tx) (a : ByteArray) (N : Int) (w : World) (h : Gs encTn w p n L) (hn : n ≤ 2097152) :
    Calls Tryz.prog 36 #[.slice p n c, .string a, .int .i64 N] w fun e w' => ∃ v, e = .returned v ∧ Gw encS w' w.heap.size v (listT (ptL L) a N) ∧ Below w.heap.size w w' := by
  have H := Lib.hid h
  have HLL : Hid ((ptL L).length = n) := Lib.hid (by rw [ptL_length, h.len])
  clear h
  go_enter Tryz.func36, Tryz.ntmps36
  go_wp2
  go_loopw [7, 8] (fun v j wr => ∃ (k : Nat) (q : Option Addr) (m d : Nat), k ≤ n ∧ j = .int .i64 (k : Int) ∧ v = .slice q m d ∧ Hid (Gw encS wr w.heap.size (.slice q m d) (listT ((ptL L).take k) a N)) ∧ Hid (Below w.heap.size w wr)) (fun _ j _ => n - (intOf j).toNat)
  case atStart => exact ⟨0, none, 0, 0, by omega, rfl, rfl, Lib.hid (by rw [show listT ((ptL L).take 0) a N = [] by simp [listT]]; exact Gw.nil _ _ _), Lib.hid (Below.refl _ _)⟩
  case round =>
    obtain ⟨k, q, m, d, hkn, rfl, rfl, HO, HB⟩ := hrel
    by_cases hlt : k < n
    · obtain ⟨b1, off, y, rfl, hy1, hy3, hr⟩ := (H.out.later HB.out).tn k hlt
      obtain ⟨c0, c1⟩ := tn_cells hr
      have HT := Lib.hid (listT_take (ptL_get hy1) a N)
      have HOL : Hid ((listT ((ptL L).take k) a N).length + 1 ≤ 2097216) := Lib.hid (by have h1 := listT_le (ptL L) a N k; omega)
      have hml := HO.out.len
      have hki : (k : Int) < (n : Int) := by omega
      have hk0 : (0 : Int) ≤ (k : Int) := by omega
      obtain ⟨ny, hny⟩ : ∃ s, y.e.nm = s := ⟨_, rfl⟩
      obtain ⟨g, hg⟩ : ∃ s, y.e.gone = s := ⟨_, rfl⟩
      rw [hny] at c0 HT
      rw [hg] at c1 HT
      rw [hml] at HT
      obtain ⟨O, hO⟩ : ∃ O, listT ((ptL L).take k) a N = O := ⟨_, rfl⟩
      rw [hO] at HT HO HOL
      unfold nlt at HT
      clear hr hy1 hy3 hny hg hml hO
      by_cases hc : g = false ∧ Op.bytesLess a.toList ny.toList = true ∧ (m : Int) < N
      · rw [if_pos hc] at HT
        obtain ⟨rfl, h2, h3⟩ := hc
        go_wp2_with (refine wpList_append_gen encS rfl _ _ 79 rfl Tryz.underlying79 (.string ⟨#[]⟩) 16 infoS rfl (by decide) w.heap.size _ O rfl (HO.out.alloc (.cells #[.string ny] 9)) _ 1 1 [ny] rfl (Gs.one encS _ ny _ rfl _ _) (fun h => by cases h) HOL.out (by have h1 := HB.out.size; rw [World.size_alloc]; omega) ?_; intro v8 w8 ho8 hg8; have HB8 := Lib.hid (below_new_gw (HB.out.alloc HB.out.size _) (HO.out.alloc _) hg8 (by have h1 := HB.out.size; rw [World.size_alloc]; omega)); rw [← HT.out] at ho8; obtain ⟨p8, c8, hv8, _⟩ := ho8.open; obtain ⟨m8, hm8⟩ : ∃ x, List.length (listT ((ptL L).take (k + 1)) a N) = x := ⟨_, rfl⟩; rw [hm8] at hv8; subst hv8; have HO8 := Lib.hid ho8; clear ho8 hg8 hm8)
        exact ⟨⟨k + 1, p8, m8, c8, by omega, by go_num, rfl, HO8, HB8⟩, by simp [intOf] <;> omega⟩
      · rw [if_neg hc] at HT
        rw [← HT.out] at HO
        cases g with
        | true =>
          clear hc
          go_wp2
          exact ⟨⟨k + 1, q, m, d, by omega, by go_num, rfl, HO, HB⟩, by simp [intOf] <;> omega⟩
        | false =>
          cases h2 : Op.bytesLess a.toList ny.toList with
          | false =>
            clear hc
            go_wp2
            exact ⟨⟨k + 1, q, m, d, by omega, by go_num, rfl, HO, HB⟩, by simp [intOf] <;> omega⟩
          | true =>
            have h3 : ¬ (m : Int) < N := fun h => hc ⟨rfl, h2, h⟩
            clear hc
            go_wp2
            exact ⟨⟨k + 1, q, m, d, by omega, by go_num, rfl, HO, HB⟩, by simp [intOf] <;> omega⟩
    · obtain rfl : k = n := by omega
      have HF : Hid ((ptL L).take k = ptL L) := Lib.hid (List.take_of_length_le (by rw [HLL.out]; exact Nat.le_refl _))
      rw [HF.out] at HO
      go_wp2
      go_ret
      exact ⟨_, rfl, HO.out, HB.out⟩
theorem namesT_take {L : List Pt} {k : Nat} {x : Pt} (h : L[k]? = some x) : namesT (L.take (k + 1)) = if x.gone = false then namesT (L.take k) ++ [x.dg] else namesT (L.take k) := by
  obtain ⟨h2, h3⟩ := List.getElem?_eq_some_iff.1 h
  unfold namesT
  rw [List.take_succ_eq_append_getElem h2, h3, List.filter_append, List.map_append]
  by_cases h1 : x.gone = false
  · rw [List.filter_cons_of_pos (by simp [h1]), if_pos h1]; rfl
  · rw [List.filter_cons_of_neg (by simpa using h1), if_neg h1]; simp
theorem namesT_le (L : List Pt) (k : Nat) : (namesT (L.take k)).length ≤ k := by
  unfold namesT
  rw [List.length_map]
  have h1 := List.length_filter_le (fun e : Pt => !e.gone) (L.take k)
  rw [List.length_take] at h1
  omega
set_option maxRecDepth 100000 in
set_option maxHeartbeats 2000000 in
theorem rnames21_any (p : Option Addr) (n c : Nat) (L : List Tx) (w : World) (h : Gs encTn w p n L) (hk : ∀ x ∈ L, dok x.e.dg) (hn : n ≤ 2097152) :
    Calls Tryz.prog 31 #[.slice p n c] w fun e w' => ∃ v, e = .returned v ∧ Od w' w.heap.size v (namesT (ptL L)) ∧ Below w.heap.size w w' := by
  have H := Lib.hid h
  have HK := Lib.hid hk
  have HLL : Hid ((ptL L).length = n) := Lib.hid (by rw [ptL_length, h.len])
  clear h hk
  go_enter Tryz.func31, Tryz.ntmps31
  go_wp2
  go_loopw [3, 4] (fun v j wr => ∃ (k : Nat) (q : Option Addr) (m d : Nat), k ≤ n ∧ j = .int .i64 (k : Int) ∧ v = .slice q m d ∧ Hid (Od wr w.heap.size (.slice q m d) (namesT ((ptL L).take k))) ∧ Hid (Below w.heap.size w wr)) (fun _ j _ => n - (intOf j).toNat)
  case atStart => exact ⟨0, none, 0, 0, by omega, rfl, rfl, Lib.hid (by rw [show namesT ((ptL L).take 0) = [] by simp [namesT]]; exact Od.nil _ _), Lib.hid (Below.refl _ _)⟩
  case round =>
    obtain ⟨k, q, m, d, hkn, rfl, rfl, HO, HB⟩ := hrel
    by_cases hlt : k < n
    · obtain ⟨b1, off, y, rfl, hy1, hy3, hr⟩ := (H.out.later HB.out).tn k hlt
      obtain ⟨_, c1⟩ := tn_cells hr
      have HLD := Lib.hid (tn_dig hr)
      have HT := Lib.hid (namesT_take (ptL_get hy1))
      have HDK := Lib.hid (HK.out y hy3)
      have HLK : Hid ((namesT ((ptL L).take k)).length ≤ 2097152) := Lib.hid (by have h1 := namesT_le (ptL L) k; omega)
      have hki : (k : Int) < (n : Int) := by omega
      have hk0 : (0 : Int) ≤ (k : Int) := by omega
      obtain ⟨d1, hd1⟩ : ∃ s, y.e.dg = s := ⟨_, rfl⟩
      obtain ⟨g, hg⟩ : ∃ s, y.e.gone = s := ⟨_, rfl⟩
      rw [hd1] at HLD HT HDK
      rw [hg] at c1 HT
      clear hr hy1 hy3 hd1 hg
      cases g with
      | false =>
        rw [if_pos rfl] at HT
        go_wp2_with (first
          | (refine wpList_ld rfl 35 _ rfl _ rfl _ HLD.out ?_)
          | (refine wpList_build_dig rfl 74 22 rfl Tryz.underlying74 info24 d1 HDK.out.1 rfl ?_)
          | (refine wpList_append_digs rfl _ _ 74 rfl Tryz.underlying74 info24 w.heap.size _ _ rfl (HO.out.alloc _) _ 1 1 [d1] rfl (Od.one wr w.heap.size d1 HDK.out HB.out.size).ds (fun h => by cases h) (by have := HLK.out; omega) (by have := HB.out.size; rw [World.size_alloc]; omega) ?_; intro v8 w8 ho8 hg8; have HB8 := Lib.hid (below_new_od (HB.out.alloc HB.out.size _) (HO.out.alloc _) hg8 (by have := HB.out.size; rw [World.size_alloc]; omega)); rw [← HT.out] at ho8; obtain ⟨p8, c8, hv8, _⟩ := ho8.open; obtain ⟨mm8, hmm8⟩ : ∃ x, (namesT ((ptL L).take (k + 1))).length = x := ⟨_, rfl⟩; rw [hmm8] at hv8; subst hv8; have HO8 := Lib.hid ho8; clear ho8 hg8 hmm8))
        exact ⟨⟨k + 1, p8, mm8, c8, by omega, by go_num, rfl, HO8, HB8⟩, by simp [intOf] <;> omega⟩
      | true =>
        rw [if_neg (by simp)] at HT
        rw [← HT.out] at HO
        go_wp2
        exact ⟨⟨k + 1, q, m, d, by omega, by go_num, rfl, HO, HB⟩, by simp [intOf] <;> omega⟩
    · obtain rfl : k = n := by omega
      have HF : Hid ((ptL L).take k = ptL L) := Lib.hid (List.take_of_length_le (by rw [HLL.out]; exact Nat.le_refl _))
      rw [HF.out] at HO
      go_wp2
      go_ret
      exact ⟨_, rfl, HO.out, HB.out⟩
set_option maxRecDepth 100000 in
theorem rtexts21_any (p q : Option Addr) (n c m d : Nat) (L : List ByteArray) (w : World) (h1 : Gs encS w p n L) (h2 : Gs encS w q m L) (hn : n ≤ 2097216) :
    Calls Tryz.prog 34 #[.slice p n c, .slice q m d] w fun e w' => e = .returned (.bool true) ∧ ∃ q, w' = w.drewN q := by
  obtain rfl : n = m := by rw [← h1.1, ← h2.1]
  have H1 := Lib.hid h1
  have H2 := Lib.hid h2
  have e1 : (((n : Nat) : Int) != (n : Int)) = false := by simp
  clear h1 h2
  go_enter Tryz.func34, Tryz.ntmps34
  go_wp2
  go_loopw [5] (fun i wr => ∃ k : Nat, k ≤ n ∧ i = .int .i64 k ∧ ∃ q, wr = w.drewN q) (fun i _ => n - (intOf i).toNat)
  case atStart => exact ⟨0, Nat.zero_le _, rfl, 0, rfl⟩
  case round =>
    obtain ⟨k, hk, rfl, nw, rfl⟩ := hrel
    by_cases hlt : k < n
    · obtain ⟨b, off, rfl, c0⟩ := H1.out.str k hlt
      obtain ⟨b2, off2, rfl, d0⟩ := H2.out.str k hlt
      have hkn : (k : Int) < (n : Int) := by omega
      have hk0 : (0 : Int) ≤ (k : Int) := by omega
      generalize L.getD k ⟨#[]⟩ = y at *
      have heq : (y.toList == y.toList) = true := by simp
      go_wp2
      go_quiet (fail)
      go_wp2
      exact ⟨⟨k + 1, by omega, by go_num, _, rfl⟩, by simp [intOf] <;> omega⟩
    · obtain rfl : k = n := by omega
      go_wp2
      go_ret
      exact ⟨rfl, nw, rfl⟩
section
variable (Ix : World → (Nat → Prop) → (Nat → Prop) → Value → List Pt → Prop)
/-- a table that is made -/
def NewGQ (w : World) (N : Nat → Prop) (L : List Pt) (e : Ending) (w' : World) : Prop := ∃ v S F, e = .returned v ∧ Ix w' S F v (newT L) ∧ (∀ b, S b → w.heap.size ≤ b) ∧ (∀ b, F b → N b ∨ w.heap.size ≤ b) ∧ Below w.heap.size w w'
/-- a table that is turned -/
def OpGQ (w : World) (S F : Nat → Prop) (v : Value) (L : List Pt) (e : Ending) (w' : World) : Prop := ∃ S' F', e = .returned (.tuple #[]) ∧ Ix w' S' F' v L ∧ Chg S w w' ∧ (∀ b, S' b → S b ∨ w.heap.size ≤ b) ∧ (∀ b, F' b → F b ∨ w.heap.size ≤ b)
end
def GetGQ (w : World) (F : Nat → Prop) (r : Pt × Bool) (e : Ending) (w' : World) : Prop := ∃ s, e = .returned (.tuple #[tnV r.1 s, .bool r.2]) ∧ Is w' s r.1.ins ∧ (r.1.ins ≠ [] → ∀ b, s.ownBlock = some b → F b ∨ w.heap.size ≤ b) ∧ Below w.heap.size w w'
def RowGQ (w : World) (F : Nat → Prop) (L : List Pt) (e : Ending) (w' : World) : Prop := ∃ p n c Ls N, e = .returned (.slice p n c) ∧ ptL Ls = L ∧ ReT w' N p n Ls ∧ (∀ b, N b → F b ∨ w.heap.size ≤ b) ∧ (p = none → c = 0) ∧ n ≤ c ∧ c ≤ maxLen ∧ Below w.heap.size w w'
def ListGQ (w : World) (F : Nat → Prop) (L : List ByteArray) (e : Ending) (w' : World) : Prop := ∃ p n c, e = .returned (.slice p n c) ∧ Gs encS w' p n L ∧ (n ≠ 0 → ∀ b off, p = some ⟨b, off, none⟩ → F b ∨ w.heap.size ≤ b) ∧ (p = none → c = 0) ∧ n ≤ c ∧ c ≤ maxLen ∧ Below w.heap.size w w'
def NamesGQ (w : World) (L : List (List Int)) (e : Ending) (w' : World) : Prop := ∃ p n c, e = .returned (.slice p n c) ∧ Ds w' p n L ∧ n ≤ maxLen ∧ Below w.heap.size w w'
/-- Ix w S F v L: in w, v is a table that holds L; its own blocks are those of S, what it reads besides lies in those of F -/
structure TagOk (Ix : World → (Nat → Prop) → (Nat → Prop) → Value → List Pt → Prop) : Prop where
  keep : ∀ {w w' : World} {S F : Nat → Prop} {v : Value} {L : List Pt}, Ix w S F v L → (∀ b, S b ∨ F b → w'.heap[b]? = w.heap[b]?) → w.heap.size ≤ w'.heap.size → Ix w' S F v L
  lt : ∀ {w : World} {S F : Nat → Prop} {v : Value} {L : List Pt}, Ix w S F v L → ∀ b, S b ∨ F b → b < w.heap.size
  dis : ∀ {w : World} {S F : Nat → Prop} {v : Value} {L : List Pt}, Ix w S F v L → ∀ b, S b → ¬ F b
  ok : ∀ {w : World} {S F : Nat → Prop} {v : Value} {L : List Pt}, Ix w S F v L → rowT L ∧ ∀ x ∈ L, dok x.dg
  new : ∀ {w : World} {N : Nat → Prop} {p : Option Addr} {n c : Nat} {Ls : List Tx}, ReT w N p n Ls → (p = none → c = 0) → n ≤ c → c ≤ maxLen → n ≤ 1048576 → insLeT (ptL Ls) 2097151 → Calls Tryz.prog 41 #[.slice p n c] w fun e w' => NewGQ Ix w N (ptL Ls) e w'
  apply : ∀ {w : World} {S F : Nat → Prop} {v : Value} {L : List Pt} (x : Wq), Ix w S F v L → dok x.dg → L.length ≤ 1048576 → insLeT L 2097151 → Calls Tryz.prog 46 #[v, x.v] w fun e w' => OpGQ Ix w S F v (applyT L x) e w'
  keepS : ∀ {w : World} {S F : Nat → Prop} {v u : Value} {L : List Pt} {B : List Int}, Ix w S F v L → Is w u B → (B ≠ [] → ∀ b, u.ownBlock = some b → ¬ S b) → B.length ≤ 2097152 → L.length ≤ 1048576 → insLeT L 2097151 → Calls Tryz.prog 50 #[v, u] w fun e w' => OpGQ Ix w S F v (keepTs L B) e w'
  get : ∀ {w : World} {S F : Nat → Prop} {v : Value} {L : List Pt} (s : ByteArray), Ix w S F v L → Calls Tryz.prog 65 #[v, .string s] w fun e w' => GetGQ w F (getTR L s) e w'
  row : ∀ {w : World} {S F : Nat → Prop} {v : Value} {L : List Pt}, Ix w S F v L → L.length ≤ 1048576 → Calls Tryz.prog 55 #[v] w fun e w' => RowGQ w F L e w'
  count : ∀ {w : World} {S F : Nat → Prop} {v : Value} {L : List Pt}, Ix w S F v L → L.length ≤ 1048576 → Calls Tryz.prog 67 #[v] w fun e w' => e = .returned (.int .i64 ((namesT L).length : Int)) ∧ Below w.heap.size w w'
  list : ∀ {w : World} {S F : Nat → Prop} {v : Value} {L : List Pt} (s : ByteArray) (n : Int), Ix w S F v L → L.length ≤ 1048576 → -9223372036854775808 ≤ n → n ≤ 9223372036854775807 → Calls Tryz.prog 70 #[v, .string s, .int .i64 n] w fun e w' => ListGQ w F (listT L s n) e w'
  names : ∀ {w : World} {S F : Nat → Prop} {v : Value} {L : List Pt}, Ix w S F v L → L.length ≤ 1048576 → Calls Tryz.prog 69 #[v] w fun e w' => NamesGQ w (namesT L) e w'
theorem TagOk.later {Ix : World → (Nat → Prop) → (Nat → Prop) → Value → List Pt → Prop} (hT : TagOk Ix) {w w' : World} {S F : Nat → Prop} {v : Value} {L : List Pt} (h : Ix w S F v L) (hb : Below w.heap.size w w') : Ix w' S F v L :=
  hT.keep h (fun b hb2 => hb.block b (hT.lt h b hb2)) hb.size
theorem ReT.none (w : World) : ReT w (fun _ => False) none 0 [] := ⟨Gs.empty _ _ _, fun h => absurd rfl h, (fun x h => by cases h), (fun x h => by cases h), (fun x h => by cases h), fun b h => h.elim⟩
set_option maxRecDepth 100000 in
set_option maxHeartbeats 4000000 in
theorem stateasks_any {Sx : World → (Nat → Prop) → (Nat → Prop) → Value → Ps → Prop} (hT : StOk Sx) (p q r : Option Addr) (n m l c d cr : Nat) (sa sb sc se : Int) (D : List Ex) (T : List Tx) (K : List (Int × Int × Int)) (N : Nat → Prop) (dg : List Int) (nm : ByteArray) (w : World) (hD : ReN w N p n D) (hTT : ReT w N q m T) (hK : Gs encLo w r l K) (s1 : SlOk p n c) (s2 : SlOk q m d) (s3 : SlOk r l cr) (hr : SnR D T K) (hn : n + m ≤ 1048576) (hl : l ≤ 1048576) (hi : insLe (peL D) 2097151) (hi2 : insLeT (ptL T) 2097151) (hdg : dok dg) (hfew : (newS (peL D) (ptL T) (psL K)).Few) :
    Calls Tryz.prog 4 #[.agg (SnC sa sb sc se (.slice p n c) (.slice q m d) (.slice r l cr)), .agg (bcs dg), .string nm] w fun e w' => e = .returned (.bool true) ∧ Below w.heap.size w w' := by
  obtain ⟨w0, w2, g2, h0, h2, hg2, hB⟩ := box2 w (SnC sa sb sc se (.slice p n c) (.slice q m d) (.slice r l cr)) (bcs dg) 27 35
  have HB := Lib.hid hB.le
  have HLSN := Lib.hid fun W (hW : Below w2.heap.size w2 W) => sn_load (obj_later hB.a hW)
  have HLDG := Lib.hid fun W (hW : Below w2.heap.size w2 W) => dg_load hdg.1 (obj_later hB.z hW)
  have HNW := Lib.hid (hT.new (w := w2) (a := sa) (b := sb) (c' := sc) (e := se) (hD.later hB.le) (hTT.later hB.le) (hK.later hB.le) s1 s2 s3 hr hn hl hi hi2)
  have HRW := Lib.hid fun W (hW : Below w2.heap.size w2 W) => rnew22_any p q r n m l c d cr sa sb sc se D T K W ((hD.later hB.le).later hW).gs ((hTT.later hB.le).later hW).gs ((hK.later hB.le).later hW) hD.dk hr.r (by omega) (by omega) (by omega)
  have HID : Hid (∀ W, Below w2.heap.size w2 W → (∀ x ∈ D, Is W x.s x.e.ins) ∧ ∀ x ∈ T, Is W x.s x.e.ins) := Lib.hid fun W hW => ⟨((hD.later hB.le).later hW).is, ((hTT.later hB.le).later hW).is⟩
  have HKD := Lib.hid (And.intro hD.dk hTT.dk)
  have HLV := Lib.hid fun W => lives22_any hT W
  have HT := Lib.hid hT
  have HDG := Lib.hid hdg
  have HFW := Lib.hid hfew
  obtain ⟨SN, hSN⟩ : ∃ s, SnC sa sb sc se (.slice p n c) (.slice q m d) (.slice r l cr) = s := ⟨_, rfl⟩
  rw [hSN] at HLSN HNW HRW h0 ⊢
  obtain ⟨DX, hDX⟩ : ∃ s, bcs dg = s := ⟨_, rfl⟩
  have HDX := Lib.hid hDX
  rw [hDX] at HLDG h2 ⊢
  generalize newS (peL D) (ptL T) (psL K) = x0 at *
  clear hD hTT hK s1 s2 s3 hr hn hl hi hi2 hdg hfew hB hSN hDX hT
  go_enter Tryz.func4, Tryz.ntmps4
  have HL1 := Lib.hid (HLSN.out _ (Below.refl _ _))
  go_upto_region 2 with (first
    | (refine wpList_ld rfl 27 _ rfl _ rfl _ HL1.out ?_)
    | (go_at_call 8; refine HNW.out.mono ?_; rintro e w3 ⟨v, S, F, rfl, hx3, hs3, hf3, hb3⟩; have HX3 := Lib.hid hx3; have HB3 := Lib.hid hb3; clear hx3 hs3 hf3 hb3))
  clear h0 h2 hg2
  have HL2 := Lib.hid (HLSN.out _ HB3.out)
  have HRW3 := Lib.hid (HRW.out _ HB3.out)
  go_upto_region 3 with (first
    | (refine wpList_ld rfl 27 _ rfl _ rfl _ HL2.out ?_)
    | (go_at_call 9; refine HRW3.out.mono ?_; rintro e w4 ⟨_, _, _, rfl, ⟨q1, m1, d1, o1, rfl, ho1, hg1, _, hm1⟩, ⟨q2, m2, d2, o2, rfl, ho2, hgt, _, hm2⟩, ⟨q3, m3, d3, rfl, _, _⟩, hb4⟩; have HO1 := Lib.hid (And.intro ho1 (And.intro hg1 hm1)); have HO2 := Lib.hid (And.intro ho2 (And.intro hgt hm2)); have HB34 := Lib.hid hb4; clear ho1 hg1 hm1 ho2 hgt hm2 hb4)
    | (refine wpList_store_row rfl 32 _ _ rfl w4.heap.size #[.slice q1 m1 d1, .slice q2 m2 d2, .slice q3 m3 d3] rfl rfl 32 _ (heap_alloc_new _ _) sizeSt rfl (by simp [Value.oneCell']) ?_; generalize hw5 : World.setRow _ _ _ = w5))
  obtain ⟨G, hG⟩ : ∃ g, w4.heap.size = g := ⟨_, rfl⟩
  have HSG : Hid (Sg w5 G (.slice q1 m1 d1) (.slice q2 m2 d2) (.slice q3 m3 d3)) := Lib.hid (by rw [← hw5, ← hG]; exact Sg.row (show Sg _ _ (.slice none 0 0) (.slice none 0 0) (.slice none 0 0) from heap_alloc_new _ _))
  have HB45 : Hid (Below w4.heap.size w4 w5) := Lib.hid (by rw [← hw5]; exact below_setRow8 ((Below.refl _ _).alloc (Nat.le_refl _) _) _ _ (Nat.le_refl _))
  have HB5 : Hid (Below w2.heap.size w2 w5) := Lib.hid (below_step HB3.out (below_step HB34.out HB45.out))
  have HX5 : Hid (Sx w5 S F v x0) := Lib.hid (HT.out.later (HT.out.later HX3.out HB34.out) HB45.out)
  have HRR : Hid (peL o1 = x0.D ∧ Gs encEn w5 q1 m1 o1 ∧ (∀ x ∈ o1, Is w5 x.s x.e.ins) ∧ (∀ x ∈ o1, dok x.e.dg)) := Lib.hid ⟨HO1.out.1, HO1.out.2.1.later HB45.out, fun x hx => (HO1.out.2.2 x hx).elim (fun h => (HID.out w5 HB5.out).1 x h) (fun h => (h.2.later HB45.out).is), fun x hx => (HO1.out.2.2 x hx).elim (fun h => HKD.out.1 x h) (fun h => h.1)⟩
  have HRT : Hid (ptL o2 = x0.T ∧ Gs encTn w5 q2 m2 o2 ∧ (∀ x ∈ o2, Is w5 x.s x.e.ins) ∧ (∀ x ∈ o2, dok x.e.dg)) := Lib.hid ⟨HO2.out.1, HO2.out.2.1.later HB45.out, fun x hx => (HO2.out.2.2 x hx).elim (fun h => (HID.out w5 HB5.out).2 x h) (fun h => (h.2.later HB45.out).is), fun x hx => (HO2.out.2.2 x hx).elim (fun h => HKD.out.2 x h) (fun h => h.1)⟩
  rw [hG]
  clear hw5 hG
  have HM1 : Hid (m1 ≤ 1048576 ∧ m2 ≤ 1048576) := Lib.hid (by have h1 := HFW.out.n; rw [← HRR.out.1, ← HRT.out.1, peL_length, ptL_length, HRR.out.2.1.len, HRT.out.2.1.len] at h1; omega)
  have HDIG := Lib.hid fun W (hW : Below w5.heap.size w5 W) => HT.out.digest dg (HT.out.later HX5.out hW) HDG.out
  have HTAG := Lib.hid fun W (hW : Below w5.heap.size w5 W) => HT.out.tag nm (HT.out.later HX5.out hW)
  have HCNT := Lib.hid fun W (hW : Below w5.heap.size w5 W) => HT.out.count (HT.out.later HX5.out hW) HFW.out
  have HNA5 := Lib.hid fun W (hW : Below w5.heap.size w5 W) => HT.out.names (HT.out.later HX5.out hW) HFW.out
  have HLI5 := Lib.hid fun W (hW : Below w5.heap.size w5 W) => HT.out.list nm 3 (HT.out.later HX5.out hW) HFW.out (by decide) (by decide)
  have HRG := Lib.hid fun W (hW : Below w5.heap.size w5 W) => rget20_any q1 m1 d1 o1 dg W (HRR.out.2.1.later hW) HRR.out.2.2.2 HDG.out (by have := HM1.out; omega)
  have HRTG := Lib.hid fun W (hW : Below w5.heap.size w5 W) => rget21_any q2 m2 d2 o2 nm W (HRT.out.2.1.later hW) (by have := HM1.out; omega)
  have HRC := Lib.hid fun W (hW : Below w5.heap.size w5 W) => rcount20_any q1 m1 d1 o1 W (HRR.out.2.1.later hW) (by have := HM1.out; omega)
  have HRN5 := Lib.hid fun W (hW : Below w5.heap.size w5 W) => rnames21_any q2 m2 d2 o2 W (HRT.out.2.1.later hW) HRT.out.2.2.2 (by have := HM1.out; omega)
  have HRL5 := Lib.hid fun W (hW : Below w5.heap.size w5 W) => rlist21_any q2 m2 d2 o2 nm 3 W (HRT.out.2.1.later hW) (by have := HM1.out; omega)
  rw [HRR.out.1] at HRG HRC
  rw [HRT.out.1] at HRTG HRN5 HRL5
  rw [HDX.out] at HDIG HRG
  obtain ⟨R1, hR1⟩ : ∃ R, getR x0.D dg = R := ⟨_, rfl⟩
  obtain ⟨R2, hR2⟩ : ∃ R, getTR x0.T nm = R := ⟨_, rfl⟩
  have R1D : Hid (dok R1.1.dg ∧ R1.1.ins.length ≤ 2097152) := Lib.hid (by
    rw [← hR1]
    unfold getR
    cases hge : getE x0.D dg with
    | none => exact ⟨dz32_ok, Nat.zero_le _⟩
    | some z => exact ⟨(HT.out.ok HX5.out).2.1 z (getE_mem hge).1, Nat.le_trans (HFW.out.i z (getE_mem hge).1) (by decide)⟩)
  have R2D : Hid (dok R2.1.dg ∧ R2.1.ins.length ≤ 2097152) := Lib.hid (by
    rw [← hR2]
    unfold getTR
    cases hge : getT x0.T nm with
    | none => exact ⟨dz32_ok, Nat.zero_le _⟩
    | some z => exact ⟨(HT.out.ok HX5.out).2.2.1 z (getT_mem hge).1, Nat.le_trans (HFW.out.j z (getT_mem hge).1) (by decide)⟩)
  rw [hR1] at HDIG HRG
  rw [hR2] at HTAG HRTG
  clear hR1 hR2
  obtain ⟨NL, hNL⟩ : ∃ z, (namesT x0.T).length = z := ⟨_, rfl⟩
  have HNL := Lib.hid hNL
  rw [hNL] at HCNT
  have HNLB : Hid (NL ≤ 1048576) := Lib.hid (by rw [← hNL]; have h1 := HFW.out.n; have h2 := (show (namesT x0.T).length ≤ x0.T.length from by unfold namesT; first | (rw [List.length_map]; exact List.length_filter_le _ _) | (exact List.length_filterMap_le _ _)); omega)
  clear hNL
  have HB_g0 : Hid (Below w5.heap.size w5 w5) := Lib.hid (Below.refl _ _)
  have HLDa := Lib.hid (HLDG.out _ HB5.out)
  go_upto_region 4 with (first
    | (refine wpList_ld rfl 35 _ rfl _ rfl _ HLDa.out ?_)
    | (go_at_call 23; refine (HDIG.out _ HB_g0.out).mono ?_; rintro e wa1 ⟨u1, rfl, hi1, _, hb1⟩; have HI1 : Hid (Is wa1 u1 R1.1.ins) := Lib.hid (hi1); obtain ⟨p1, c1, hu1, _⟩ := HI1.out; subst hu1; have HA1 := Lib.hid (below_step HB_g0.out hb1); have HC1 := Lib.hid hb1; clear hb1)
    | (refine wpList_store_row rfl 59 _ _ rfl wa1.heap.size (enC R1.1 (.slice p1 R1.1.ins.length c1)) rfl rfl 59 _ (heap_alloc_new _ _) (enC_sizeOf R1.1 _ R1D.out.1.1) ((enC_size zeroE _ rfl).trans (enC_size R1.1 _ R1D.out.1.1).symm) (enC_one _ _ _ _) ?_; generalize hwb1 : World.setRow _ _ _ = wb1))
  obtain ⟨he1, hb1⟩ := enC_lay rfl hwb1
  obtain ⟨g3, hg3⟩ : ∃ g, wa1.heap.size = g := ⟨_, rfl⟩
  rw [hg3] at he1
  rw [hg3]
  have HE1 := Lib.hid he1
  have HIs1 := Lib.hid (HI1.out.later hb1)
  have HB_g1 := Lib.hid (below_step HA1.out hb1)
  have HW1 := Lib.hid (below_step HC1.out hb1)
  clear he1 hb1 hwb1 hg3
  have HLDb := Lib.hid (HLDG.out _ (below_step HB5.out HB_g1.out))
  obtain ⟨a0, a1, _⟩ := (HSG.out.later HB_g1.out).cells
  go_upto_region 5 with (first
    | (refine wpList_ld rfl 35 _ rfl _ rfl _ HLDb.out ?_)
    | (go_at_call 24; refine (HRG.out _ HB_g1.out).mono ?_; rintro e wa2 ⟨u2, rfl, hi2, hb2⟩; have HI2 : Hid (Is wa2 u2 R1.1.ins) := Lib.hid (hi2.elim (fun ⟨y, hy, e1, e2⟩ => by rw [e2, ← e1]; exact ((HRR.out.2.2.1 y hy).later HB_g1.out).later hb2) (fun ⟨e1, e2⟩ => by rw [e1, e2]; exact Is.nil _)); obtain ⟨p2, c2, hu2, _⟩ := HI2.out; subst hu2; have HA2 := Lib.hid (below_step HB_g1.out hb2); have HC2 := Lib.hid hb2; clear hb2)
    | (refine wpList_store_row rfl 59 _ _ rfl wa2.heap.size (enC R1.1 (.slice p2 R1.1.ins.length c2)) rfl rfl 59 _ (heap_alloc_new _ _) (enC_sizeOf R1.1 _ R1D.out.1.1) ((enC_size zeroE _ rfl).trans (enC_size R1.1 _ R1D.out.1.1).symm) (enC_one _ _ _ _) ?_; generalize hwb2 : World.setRow _ _ _ = wb2))
  obtain ⟨he2, hb2⟩ := enC_lay rfl hwb2
  obtain ⟨g4, hg4⟩ : ∃ g, wa2.heap.size = g := ⟨_, rfl⟩
  rw [hg4] at he2
  rw [hg4]
  have HE2 := Lib.hid he2
  have HIs2 := Lib.hid (HI2.out.later hb2)
  have HB_g2 := Lib.hid (below_step HA2.out hb2)
  have HW2 := Lib.hid (below_step HC2.out hb2)
  clear he2 hb2 hwb2 hg4
  clear a0 a1
  go_upto_region 6 with (first
    | (go_at_call 25; refine (HTAG.out _ HB_g2.out).mono ?_; rintro e wa3 ⟨u3, rfl, hi3, _, hb3⟩; have HI3 : Hid (Is wa3 u3 R2.1.ins) := Lib.hid (hi3); obtain ⟨p3, c3, hu3, _⟩ := HI3.out; subst hu3; have HA3 := Lib.hid (below_step HB_g2.out hb3); have HC3 := Lib.hid hb3; clear hb3)
    | (refine wpList_store_row rfl 64 _ _ rfl wa3.heap.size (tnC R2.1 (.slice p3 R2.1.ins.length c3)) rfl rfl 64 _ (heap_alloc_new _ _) (tnC_sizeOf R2.1 _ R2D.out.1.1) ((tnC_size zeroT _ rfl).trans (tnC_size R2.1 _ R2D.out.1.1).symm) (tnC_one _ _ _ _) ?_; generalize hwb3 : World.setRow _ _ _ = wb3))
  obtain ⟨he3, hb3⟩ := tnC_lay rfl hwb3
  obtain ⟨g5, hg5⟩ : ∃ g, wa3.heap.size = g := ⟨_, rfl⟩
  rw [hg5] at he3
  rw [hg5]
  have HE3 := Lib.hid he3
  have HIs3 := Lib.hid (HI3.out.later hb3)
  have HB_g3 := Lib.hid (below_step HA3.out hb3)
  have HW3 := Lib.hid (below_step HC3.out hb3)
  clear he3 hb3 hwb3 hg5
  obtain ⟨a0, a1, _⟩ := (HSG.out.later HB_g3.out).cells
  go_upto_region 7 with (first
    | (go_at_call 26; refine (HRTG.out _ HB_g3.out).mono ?_; rintro e wa4 ⟨u4, rfl, hi4, hb4⟩; have HI4 : Hid (Is wa4 u4 R2.1.ins) := Lib.hid (hi4.elim (fun ⟨y, hy, e1, e2⟩ => by rw [e2, ← e1]; exact ((HRT.out.2.2.1 y hy).later HB_g3.out).later hb4) (fun ⟨e1, e2⟩ => by rw [e1, e2]; exact Is.nil _)); obtain ⟨p4, c4, hu4, _⟩ := HI4.out; subst hu4; have HA4 := Lib.hid (below_step HB_g3.out hb4); have HC4 := Lib.hid hb4; clear hb4)
    | (refine wpList_store_row rfl 64 _ _ rfl wa4.heap.size (tnC R2.1 (.slice p4 R2.1.ins.length c4)) rfl rfl 64 _ (heap_alloc_new _ _) (tnC_sizeOf R2.1 _ R2D.out.1.1) ((tnC_size zeroT _ rfl).trans (tnC_size R2.1 _ R2D.out.1.1).symm) (tnC_one _ _ _ _) ?_; generalize hwb4 : World.setRow _ _ _ = wb4))
  obtain ⟨he4, hb4⟩ := tnC_lay rfl hwb4
  obtain ⟨g6, hg6⟩ : ∃ g, wa4.heap.size = g := ⟨_, rfl⟩
  rw [hg6] at he4
  rw [hg6]
  have HE4 := Lib.hid he4
  have HIs4 := Lib.hid (HI4.out.later hb4)
  have HB_g4 := Lib.hid (below_step HA4.out hb4)
  have HW4 := Lib.hid (below_step HC4.out hb4)
  clear he4 hb4 hwb4 hg6
  clear a0 a1
  go_upto_region 8 with (go_at_call 27; refine (HCNT.out _ HB_g4.out).mono ?_; rintro e w9 ⟨rfl, hb9⟩; have HB49 := Lib.hid hb9; have HB9 := Lib.hid (below_step HB_g4.out hb9); clear hb9)
  obtain ⟨a0, a1, _⟩ := (HSG.out.later HB9.out).cells
  go_upto_region 9 with (go_at_call 28; refine (HRC.out _ HB9.out).mono ?_; rintro e wq ⟨rfl, h4⟩; have h5 := h4.symm; clear h4; subst h5)
  clear a0 a1
  have HCH3 := HB49
  have HX3' := Lib.hid (below_step HW4.out HB49.out)
  have HX2' := Lib.hid (below_step HW3.out HX3'.out)
  have HX1' := Lib.hid (below_step HW2.out HX2'.out)
  have HSS : Hid (∀ W, Below w9.heap.size w9 W → (fun W => W.cell? ⟨G, 1, none⟩ = some (.slice q2 m2 d2) ∧ Below w9.heap.size w9 W) W) := Lib.hid fun W hW => ⟨((HSG.out.later HB9.out).later hW).cells.2.1, hW⟩
  have HS1 := Lib.hid fun W (hW : Below w9.heap.size w9 W) => rsame19_any R1.1 _ _ W ((HIs1.out.later HX1'.out).later hW) ((HIs2.out.later HX2'.out).later hW) R1D.out.1 R1D.out.2
  have HS2 := Lib.hid fun W (hW : Below w9.heap.size w9 W) => rsamet19_any R2.1 _ _ W ((HIs3.out.later HX3'.out).later hW) ((HIs4.out.later HB49.out).later hW) R2D.out.1 R2D.out.2
  have HL3 := Lib.hid fun W (hW : Below w9.heap.size w9 W) => ((HE1.out.later HX1'.out).later hW).load R1D.out.1.1
  have HL4 := Lib.hid fun W (hW : Below w9.heap.size w9 W) => ((HE2.out.later HX2'.out).later hW).load R1D.out.1.1
  have HL5 := Lib.hid fun W (hW : Below w9.heap.size w9 W) => ((HE3.out.later HX3'.out).later hW).load R2D.out.1.1
  have HL6 := Lib.hid fun W (hW : Below w9.heap.size w9 W) => ((HE4.out.later HB49.out).later hW).load R2D.out.1.1
  have HNA := Lib.hid fun W (hW : Below w9.heap.size w9 W) => HNA5.out W (below_step HB9.out hW)
  have HLI := Lib.hid fun W (hW : Below w9.heap.size w9 W) => HLI5.out W (below_step HB9.out hW)
  have HRN := Lib.hid fun W (hW : Below w9.heap.size w9 W) => HRN5.out W (below_step HB9.out hW)
  have HRL := Lib.hid fun W (hW : Below w9.heap.size w9 W) => HRL5.out W (below_step HB9.out hW)
  have HDS : Hid (∀ (pa pb : Option Addr) (na nb ca cb : Nat) W, Ds W pa na (namesT x0.T) → Ds W pb nb (namesT x0.T) → na ≤ maxLen → Calls Tryz.prog 32 #[.slice pa na ca, .slice pb nb cb] W fun e w' => e = .returned (.bool true) ∧ Below W.heap.size W w') := Lib.hid fun pa pb na nb ca cb W h h' hn => (rsame_any pa pb na nb ca cb _ _ W h h' hn (by rw [← h'.1, h.1]; exact hn)).mono fun e w' hq => ⟨by rw [hq.1]; simp, hq.2⟩
  have HLLB : Hid ((listT x0.T nm 3).length ≤ 2097216) := Lib.hid (by have h1 := listT_le x0.T nm 3 x0.T.length; rw [List.take_length] at h1; have h2 := HFW.out.n; omega)
  unfold enV at HS1
  unfold tnV at HS2
  generalize enC R1.1 (.slice p1 R1.1.ins.length c1) = M3 at *
  generalize enC R1.1 (.slice p2 R1.1.ins.length c2) = M4 at *
  generalize tnC R2.1 (.slice p3 R2.1.ins.length c3) = M5 at *
  generalize tnC R2.1 (.slice p4 R2.1.ins.length c4) = M6 at *
  have hbe : (R1.2 == R1.2) = true := by simp
  have hbf : (R2.2 == R2.2) = true := by simp
  refine wp_region_held_drew (S := (fun W => W.cell? ⟨G, 1, none⟩ = some (.slice q2 m2 d2) ∧ Below w9.heap.size w9 W)) (by kernel_rfl) (HSS.out _ (Below.refl _ _).drew) (fun hHeld => ?_)
  refine take_at 0 rfl (by kernel_rfl) (by kernel_rfl) (by kernel_rfl) (fun _ _ _ h => h) (yieldsIf_ld (by rfl) 59 (.tmp 9) rfl (.pointer (some ⟨g3, 0, none⟩)) rfl (.agg M3) (fun W hW => HL3.out W hW.2)) (by assumption) ?_
  (try simp only [PT])
  refine take_at 1 rfl (by kernel_rfl) (by kernel_rfl) (by kernel_rfl) (fun _ _ _ h => h) (yieldsIf_ld (by rfl) 59 (.tmp 11) rfl (.pointer (some ⟨g4, 0, none⟩)) rfl (.agg M4) (fun W hW => HL4.out W hW.2)) (by assumption) ?_
  (try simp only [PT])
  refine ready_at 2 rfl (by kernel_rfl) (fun K hK => ?_)
  go_simp
  refine (HS1.out _ (Below.refl _ _).drew).mono ?_
  rintro ex v1 ⟨rfl, hb⟩
  have HB_v1 : Hid (Below w9.heap.size w9 v1) := Lib.hid (below_step (Below.refl _ _).drew hb)
  clear hb hHeld
  (try dsimp only)
  first
    | refine hK.out _ _ ?hS3 (fun hHeld => ?rest3)
    | (go_wp2_with fail; refine hK.out _ _ ?hS3 (fun hHeld => ?rest3))
  case hS3 => exact HSS.out _ HB_v1.out
  clear hK K
  (try simp only [PT])
  refine take_at 3 (v := ?vv4) rfl (by kernel_rfl) (by kernel_rfl) (by kernel_rfl) (fun _ _ _ h => h) (Or.inl ⟨by rfl, ?hy4⟩) (by assumption) ?rest4
  case hy4 => intro w hSw; (try dsimp only at hSw); go_simp; (try with_reducible rfl)
  (try simp only [PT])
  refine take_at 4 (v := ?vv5) rfl (by kernel_rfl) (by kernel_rfl) (by kernel_rfl) (fun _ _ _ h => h) (Or.inl ⟨by rfl, ?hy5⟩) (by assumption) ?rest5
  case hy5 => intro w hSw; (try dsimp only at hSw); go_simp; (try with_reducible rfl)
  (try simp only [PT])
  refine take_at 5 (v := ?vv6) rfl (by kernel_rfl) (by kernel_rfl) (by kernel_rfl) (fun _ _ _ h => h) (Or.inl ⟨by rfl, ?hy6⟩) (by assumption) ?rest6
  case hy6 => intro w hSw; (try dsimp only at hSw); go_simp; (try with_reducible rfl)
  (try simp only [PT])
  refine take_at 6 (v := ?vv7) rfl (by kernel_rfl) (by kernel_rfl) (by kernel_rfl) (fun _ _ _ h => h) (Or.inl ⟨by rfl, ?hy7⟩) (by assumption) ?rest7
  case hy7 => intro w hSw; (try dsimp only at hSw); go_simp; (try with_reducible rfl)
  (try simp only [PT])
  refine take_at 7 (v := ?vv8) rfl (by kernel_rfl) (by kernel_rfl) (by kernel_rfl) (fun _ _ _ h => h) (Or.inl ⟨by rfl, ?hy8⟩) (by assumption) ?rest8
  case hy8 => intro w hSw; (try dsimp only at hSw); go_simp; (try with_reducible rfl)
  (try simp only [PT])
  refine take_at 8 (v := ?vv9) rfl (by kernel_rfl) (by kernel_rfl) (by kernel_rfl) (fun _ _ _ h => h) (Or.inl ⟨by rfl, ?hy9⟩) (by assumption) ?rest9
  case hy9 => intro w hSw; (try dsimp only at hSw); go_simp; (try with_reducible rfl)
  (try simp only [PT])
  refine take_at 9 rfl (by kernel_rfl) (by kernel_rfl) (by kernel_rfl) (fun _ _ _ h => h) (yieldsIf_ld (by rfl) 64 (.tmp 13) rfl (.pointer (some ⟨g5, 0, none⟩)) rfl (.agg M5) (fun W hW => HL5.out W hW.2)) (by assumption) ?_
  (try simp only [PT])
  refine take_at 10 rfl (by kernel_rfl) (by kernel_rfl) (by kernel_rfl) (fun _ _ _ h => h) (yieldsIf_ld (by rfl) 64 (.tmp 15) rfl (.pointer (some ⟨g6, 0, none⟩)) rfl (.agg M6) (fun W hW => HL6.out W hW.2)) (by assumption) ?_
  (try simp only [PT])
  refine ready_at 11 rfl (by kernel_rfl) (fun K hK => ?_)
  go_simp
  refine (HS2.out _ HB_v1.out).mono ?_
  rintro ex v2 ⟨rfl, hb⟩
  have HB_v2 : Hid (Below w9.heap.size w9 v2) := Lib.hid (below_step HB_v1.out hb)
  clear hb hHeld
  (try dsimp only)
  first
    | refine hK.out _ _ ?hS12 (fun hHeld => ?rest12)
    | (go_wp2_with fail; refine hK.out _ _ ?hS12 (fun hHeld => ?rest12))
  case hS12 => exact HSS.out _ HB_v2.out
  clear hK K
  (try simp only [PT])
  refine take_at 12 (v := ?vv13) rfl (by kernel_rfl) (by kernel_rfl) (by kernel_rfl) (fun _ _ _ h => h) (Or.inl ⟨by rfl, ?hy13⟩) (by assumption) ?rest13
  case hy13 => intro w hSw; (try dsimp only at hSw); go_simp; (try with_reducible rfl)
  (try simp only [PT])
  refine take_at 13 (v := ?vv14) rfl (by kernel_rfl) (by kernel_rfl) (by kernel_rfl) (fun _ _ _ h => h) (Or.inl ⟨by rfl, ?hy14⟩) (by assumption) ?rest14
  case hy14 => intro w hSw; (try dsimp only at hSw); go_simp; (try with_reducible rfl)
  (try simp only [PT])
  refine take_at 14 (v := ?vv15) rfl (by kernel_rfl) (by kernel_rfl) (by kernel_rfl) (fun _ _ _ h => h) (Or.inl ⟨by rfl, ?hy15⟩) (by assumption) ?rest15
  case hy15 => intro w hSw; (try dsimp only at hSw); go_simp; (try with_reducible rfl)
  (try simp only [PT])
  refine take_at 15 (v := ?vv16) rfl (by kernel_rfl) (by kernel_rfl) (by kernel_rfl) (fun _ _ _ h => h) (Or.inl ⟨by rfl, ?hy16⟩) (by assumption) ?rest16
  case hy16 => intro w hSw; (try dsimp only at hSw); go_simp; (try with_reducible rfl)
  (try simp only [PT])
  refine take_at 16 (v := ?vv17) rfl (by kernel_rfl) (by kernel_rfl) (by kernel_rfl) (fun _ _ _ h => h) (Or.inl ⟨by rfl, ?hy17⟩) (by assumption) ?rest17
  case hy17 => intro w hSw; (try dsimp only at hSw); go_simp; (try with_reducible rfl)
  (try simp only [PT])
  refine take_at 17 (v := ?vv18) rfl (by kernel_rfl) (by kernel_rfl) (by kernel_rfl) (fun _ _ _ h => h) (Or.inl ⟨by rfl, ?hy18⟩) (by assumption) ?rest18
  case hy18 => intro w hSw; (try dsimp only at hSw); go_simp; (try with_reducible rfl)
  (try simp only [PT])
  refine take_at 18 (v := ?vv19) rfl (by kernel_rfl) (by kernel_rfl) (by kernel_rfl) (fun _ _ _ h => h) (Or.inl ⟨by rfl, ?hy19⟩) (by assumption) ?rest19
  case hy19 => intro w hSw; (try dsimp only at hSw); go_simp; (try with_reducible rfl)
  (try simp only [PT])
  refine take_at 19 (v := ?vv20) rfl (by kernel_rfl) (by kernel_rfl) (by kernel_rfl) (fun _ _ _ h => h) (Or.inl ⟨by rfl, ?hy20⟩) (by assumption) ?rest20
  case hy20 => intro w hSw; (try dsimp only at hSw); go_simp; (try with_reducible rfl)
  (try simp only [PT])
  refine take_at 20 (v := ?vv21) rfl (by kernel_rfl) (by kernel_rfl) (by kernel_rfl) (fun _ _ _ h => h) (Or.inl ⟨by rfl, ?hy21⟩) (by assumption) ?rest21
  case hy21 => intro w hSw; (try dsimp only at hSw); go_simp; (try with_reducible rfl)
  (try simp only [PT])
  refine take_at 21 (v := ?vv22) rfl (by kernel_rfl) (by kernel_rfl) (by kernel_rfl) (fun _ _ _ h => h) (Or.inl ⟨by rfl, ?hy22⟩) (by assumption) ?rest22
  case hy22 => intro w hSw; (try dsimp only at hSw); go_simp; (try with_reducible rfl)
  (try simp only [PT])
  refine take_at 22 (v := ?vv23) rfl (by kernel_rfl) (by kernel_rfl) (by kernel_rfl) (fun _ _ _ h => h) (Or.inl ⟨by rfl, ?hy23⟩) (by assumption) ?rest23
  case hy23 => intro w hSw; (try dsimp only at hSw); go_simp; (try with_reducible rfl)
  (try simp only [PT])
  refine take_at 23 (v := ?vv24) rfl (by kernel_rfl) (by kernel_rfl) (by kernel_rfl) (fun _ _ _ h => h) (Or.inl ⟨by rfl, ?hy24⟩) (by assumption) ?rest24
  case hy24 => intro w hSw; (try dsimp only at hSw); go_simp; (try with_reducible rfl)
  (try simp only [PT])
  refine take_at 24 (v := ?vv25) rfl (by kernel_rfl) (by kernel_rfl) (by kernel_rfl) (fun _ _ _ h => h) (Or.inl ⟨by rfl, ?hy25⟩) (by assumption) ?rest25
  case hy25 => intro w hSw; (try dsimp only at hSw); go_simp; (try with_reducible rfl)
  (try simp only [PT])
  refine take_at 25 (v := ?vv26) rfl (by kernel_rfl) (by kernel_rfl) (by kernel_rfl) (fun _ _ _ h => h) (Or.inl ⟨by rfl, ?hy26⟩) (by assumption) ?rest26
  case hy26 => intro w hSw; (try dsimp only at hSw); go_simp; (try with_reducible rfl)
  (try simp only [PT])
  refine take_at 26 (v := ?vv27) rfl (by kernel_rfl) (by kernel_rfl) (by kernel_rfl) (fun _ _ _ h => h) (Or.inl ⟨by rfl, ?hy27⟩) (by assumption) ?rest27
  case hy27 => intro w hSw; (try dsimp only at hSw); go_simp; (try with_reducible rfl)
  (try simp only [PT])
  refine take_at 27 (v := ?vv28) rfl (by kernel_rfl) (by kernel_rfl) (by kernel_rfl) (fun _ _ _ h => h) (Or.inl ⟨by rfl, ?hy28⟩) (by assumption) ?rest28
  case hy28 => intro w hSw; (try dsimp only at hSw); go_simp; (try with_reducible rfl)
  (try simp only [PT])
  refine take_at 28 (v := ?vv29) rfl (by kernel_rfl) (by kernel_rfl) (by kernel_rfl) (fun _ _ _ h => h) (Or.inl ⟨by rfl, ?hy29⟩) (by assumption) ?rest29
  case hy29 => intro w hSw; (try dsimp only at hSw); go_simp; (try with_reducible rfl)
  (try simp only [PT])
  refine take_at 29 (v := ?vv30) rfl (by kernel_rfl) (by kernel_rfl) (by kernel_rfl) (fun _ _ _ h => h) (Or.inl ⟨by rfl, ?hy30⟩) (by assumption) ?rest30
  case hy30 => intro w hSw; (try dsimp only at hSw); go_simp; (try with_reducible rfl)
  (try simp only [PT])
  refine take_at 30 (v := ?vv31) rfl (by kernel_rfl) (by kernel_rfl) (by kernel_rfl) (fun _ _ _ h => h) (Or.inl ⟨by rfl, ?hy31⟩) (by assumption) ?rest31
  case hy31 => intro w hSw; (try dsimp only at hSw); go_simp; (try with_reducible rfl)
  (try simp only [PT])
  refine take_at 31 (v := ?vv32) rfl (by kernel_rfl) (by kernel_rfl) (by kernel_rfl) (fun _ _ _ h => h) (Or.inl ⟨by rfl, ?hy32⟩) (by assumption) ?rest32
  case hy32 => intro w hSw; (try dsimp only at hSw); go_simp; (try with_reducible rfl)
  (try simp only [PT])
  refine ready_at 32 rfl (by kernel_rfl) (fun K hK => ?_)
  go_simp
  refine (HRN.out _ HB_v2.out).mono ?_
  rintro ex v3 ⟨u3, rfl, ho, hb⟩
  have HO3 := Lib.hid ho
  obtain ⟨p3, c3, hv, _⟩ := ho.open
  rw [HNL.out] at hv
  subst hv
  clear ho
  have HB_v3 : Hid (Below w9.heap.size w9 v3) := Lib.hid (below_step HB_v2.out hb)
  clear hb hHeld
  (try dsimp only)
  first
    | refine hK.out _ _ ?hS33 (fun hHeld => ?rest33)
    | (go_wp2_with fail; refine hK.out _ _ ?hS33 (fun hHeld => ?rest33))
  case hS33 => exact HSS.out _ HB_v3.out
  clear hK K
  (try simp only [PT])
  refine take_at 33 (v := ?vv34) rfl (by kernel_rfl) (by kernel_rfl) (by kernel_rfl) (fun _ _ _ h => h) (Or.inl ⟨by rfl, ?hy34⟩) (by assumption) ?rest34
  case hy34 => intro w hSw; (try dsimp only at hSw); go_simp; (try with_reducible rfl)
  (try simp only [PT])
  refine take_at 34 (v := ?vv35) rfl (by kernel_rfl) (by kernel_rfl) (by kernel_rfl) (fun _ _ _ h => h) (Or.inl ⟨by rfl, ?hy35⟩) (by assumption) ?rest35
  case hy35 => intro w hSw; (try dsimp only at hSw); go_simp; (try with_reducible rfl)
  (try simp only [PT])
  refine take_at 35 (v := ?vv36) rfl (by kernel_rfl) (by kernel_rfl) (by kernel_rfl) (fun _ _ _ h => h) (Or.inl ⟨by rfl, ?hy36⟩) (by assumption) ?rest36
  case hy36 => intro w hSw; (try dsimp only at hSw); go_simp; (try with_reducible rfl)
  (try simp only [PT])
  refine take_at 36 (v := ?vv37) rfl (by kernel_rfl) (by kernel_rfl) (by kernel_rfl) (fun _ _ _ h => h) (Or.inl ⟨by rfl, ?hy37⟩) (by assumption) ?rest37
  case hy37 => intro w hSw; (try dsimp only at hSw); go_simp; (try with_reducible rfl)
  (try simp only [PT])
  refine take_at 37 (v := ?vv38) rfl (by kernel_rfl) (by kernel_rfl) (by kernel_rfl) (fun _ _ _ h => h) (Or.inl ⟨by rfl, ?hy38⟩) (by assumption) ?rest38
  case hy38 => intro w hSw; (try dsimp only at hSw); go_simp; (try with_reducible rfl)
  (try simp only [PT])
  refine take_at 39 (v := ?vv39) rfl (by kernel_rfl) (by kernel_rfl) (by kernel_rfl) (fun _ _ _ h => h) (Or.inl ⟨by rfl, ?hy39⟩) (by assumption) ?rest39
  case hy39 => intro w hSw; (try dsimp only at hSw); go_simp; (try with_reducible rfl)
  (try simp only [PT])
  refine take_at 40 (v := ?vv40) rfl (by kernel_rfl) (by kernel_rfl) (by kernel_rfl) (fun _ _ _ h => h) (Or.inl ⟨by rfl, ?hy40⟩) (by assumption) ?rest40
  case hy40 => intro w hSw; (try dsimp only at hSw); go_simp; (try with_reducible rfl)
  (try simp only [PT])
  refine ready_at 38 rfl (by kernel_rfl) (fun K hK => ?_)
  go_simp
  refine (HNA.out _ HB_v3.out).mono ?_
  rintro ex v4 ⟨p4, n4, c4, rfl, hd, hm, hb⟩
  have HD4 := Lib.hid hd
  have HM4 := Lib.hid hm
  clear hd hm
  have HB_v4 : Hid (Below w9.heap.size w9 v4) := Lib.hid (below_step HB_v3.out hb)
  clear hb hHeld
  (try dsimp only)
  first
    | refine hK.out _ _ ?hS41 (fun hHeld => ?rest41)
    | (go_wp2_with fail; refine hK.out _ _ ?hS41 (fun hHeld => ?rest41))
  case hS41 => exact HSS.out _ HB_v4.out
  clear hK K
  (try simp only [PT])
  refine ready_at 41 rfl (by kernel_rfl) (fun K hK => ?_)
  go_simp
  refine (HRN.out _ HB_v4.out).mono ?_
  rintro ex v5 ⟨u5, rfl, ho, hb⟩
  have HD45 := Lib.hid (HD4.out.later hb)
  have HO5 := Lib.hid ho
  obtain ⟨p5, c5, hv, _⟩ := ho.open
  rw [HNL.out] at hv
  subst hv
  clear ho
  have HB_v5 : Hid (Below w9.heap.size w9 v5) := Lib.hid (below_step HB_v4.out hb)
  clear hb hHeld
  (try dsimp only)
  first
    | refine hK.out _ _ ?hS42 (fun hHeld => ?rest42)
    | (go_wp2_with fail; refine hK.out _ _ ?hS42 (fun hHeld => ?rest42))
  case hS42 => exact HSS.out _ HB_v5.out
  clear hK K
  (try simp only [PT])
  refine ready_at 42 rfl (by kernel_rfl) (fun K hK => ?_)
  go_simp
  refine (HDS.out _ _ _ _ _ _ _ HD45.out (HO5.out.ds) HM4.out).mono ?_
  rintro ex v6 ⟨rfl, hb⟩
  have HB_v6 : Hid (Below w9.heap.size w9 v6) := Lib.hid (below_step HB_v5.out hb)
  clear hb hHeld
  (try dsimp only)
  first
    | refine hK.out _ _ ?hS43 (fun hHeld => ?rest43)
    | (go_wp2_with fail; refine hK.out _ _ ?hS43 (fun hHeld => ?rest43))
  case hS43 => exact HSS.out _ HB_v6.out
  clear hK K
  (try simp only [PT])
  refine take_at 43 (v := ?vv44) rfl (by kernel_rfl) (by kernel_rfl) (by kernel_rfl) (fun _ _ _ h => h) (Or.inl ⟨by rfl, ?hy44⟩) (by assumption) ?rest44
  case hy44 => intro w hSw; (try dsimp only at hSw); go_simp; (try with_reducible rfl)
  (try simp only [PT])
  refine take_at 44 (v := ?vv45) rfl (by kernel_rfl) (by kernel_rfl) (by kernel_rfl) (fun _ _ _ h => h) (Or.inl ⟨by rfl, ?hy45⟩) (by assumption) ?rest45
  case hy45 => intro w hSw; (try dsimp only at hSw); go_simp; (try with_reducible rfl)
  (try simp only [PT])
  refine take_at 45 (v := ?vv46) rfl (by kernel_rfl) (by kernel_rfl) (by kernel_rfl) (fun _ _ _ h => h) (Or.inl ⟨by rfl, ?hy46⟩) (by assumption) ?rest46
  case hy46 => intro w hSw; (try dsimp only at hSw); go_simp; (try with_reducible rfl)
  (try simp only [PT])
  refine take_at 46 (v := ?vv47) rfl (by kernel_rfl) (by kernel_rfl) (by kernel_rfl) (fun _ _ _ h => h) (Or.inl ⟨by rfl, ?hy47⟩) (by assumption) ?rest47
  case hy47 => intro w hSw; (try dsimp only at hSw); go_simp; (try with_reducible rfl)
  (try simp only [PT])
  refine take_at 48 (v := ?vv48) rfl (by kernel_rfl) (by kernel_rfl) (by kernel_rfl) (fun _ _ _ h => h) (Or.inl ⟨by rfl, ?hy48⟩) (by assumption) ?rest48
  case hy48 => intro w hSw; (try dsimp only at hSw); go_simp; (try with_reducible rfl)
  (try simp only [PT])
  refine take_at 49 (v := ?vv49) rfl (by kernel_rfl) (by kernel_rfl) (by kernel_rfl) (fun _ _ _ h => h) (Or.inl ⟨by rfl, ?hy49⟩) (by assumption) ?rest49
  case hy49 => intro w hSw; (try dsimp only at hSw); go_simp; (try with_reducible rfl)
  (try simp only [PT])
  refine take_at 50 (v := ?vv50) rfl (by kernel_rfl) (by kernel_rfl) (by kernel_rfl) (fun _ _ _ h => h) (Or.inl ⟨by rfl, ?hy50⟩) (by assumption) ?rest50
  case hy50 => intro w hSw; (try dsimp only at hSw); go_simp; (try with_reducible rfl)
  (try simp only [PT])
  refine ready_at 47 rfl (by kernel_rfl) (fun K hK => ?_)
  go_simp
  refine (HLI.out _ HB_v6.out).mono ?_
  rintro ex v7 ⟨p7, n7, c7, rfl, hg, _, _, hb⟩
  have HG7 := Lib.hid hg
  have HN7 : Hid (n7 ≤ 2097216) := Lib.hid (by rw [← hg.len]; exact HLLB.out)
  clear hg
  have HB_v7 : Hid (Below w9.heap.size w9 v7) := Lib.hid (below_step HB_v6.out hb)
  clear hb hHeld
  (try dsimp only)
  first
    | refine hK.out _ _ ?hS51 (fun hHeld => ?rest51)
    | (go_wp2_with fail; refine hK.out _ _ ?hS51 (fun hHeld => ?rest51))
  case hS51 => exact HSS.out _ HB_v7.out
  clear hK K
  (try simp only [PT])
  refine ready_at 51 rfl (by kernel_rfl) (fun K hK => ?_)
  go_simp
  refine (HRL.out _ HB_v7.out).mono ?_
  rintro ex v8 ⟨u8, rfl, ho, hb⟩
  have HG78 := Lib.hid (HG7.out.later hb)
  have HO8 := Lib.hid ho
  obtain ⟨p8, c8, hv, _⟩ := ho.open
  obtain ⟨n8, hn8⟩ : ∃ z, (listT x0.T nm 3).length = z := ⟨_, rfl⟩
  rw [hn8] at hv
  subst hv
  clear ho hn8
  have HB_v8 : Hid (Below w9.heap.size w9 v8) := Lib.hid (below_step HB_v7.out hb)
  clear hb hHeld
  (try dsimp only)
  first
    | refine hK.out _ _ ?hS52 (fun hHeld => ?rest52)
    | (go_wp2_with fail; refine hK.out _ _ ?hS52 (fun hHeld => ?rest52))
  case hS52 => exact HSS.out _ HB_v8.out
  clear hK K
  (try simp only [PT])
  refine ready_at 52 rfl (by kernel_rfl) (fun K hK => ?_)
  go_simp
  refine (rtexts21_any _ _ _ _ _ _ _ _ HG78.out HO8.out.gs HN7.out).mono ?_
  rintro ex v9 ⟨rfl, nq, rfl⟩
  have HB_v9 : Hid (Below w9.heap.size w9 (v8.drewN nq)) := Lib.hid (below_step HB_v8.out (below_drewN (Below.refl _ _) nq))
  clear hHeld
  (try dsimp only)
  first
    | refine hK.out _ _ ?hS53 (fun hHeld => ?rest53)
    | (go_wp2_with fail; refine hK.out _ _ ?hS53 (fun hHeld => ?rest53))
  case hS53 => exact HSS.out _ HB_v9.out
  clear hK K
  (try simp only [PT])
  refine take_at 53 (v := ?vv54) rfl (by kernel_rfl) (by kernel_rfl) (by kernel_rfl) (fun _ _ _ h => h) (Or.inl ⟨by rfl, ?hy54⟩) (by assumption) ?rest54
  case hy54 => intro w hSw; (try dsimp only at hSw); go_simp; (try with_reducible rfl)
  (try simp only [PT])
  refine take_at 54 (v := ?vv55) rfl (by kernel_rfl) (by kernel_rfl) (by kernel_rfl) (fun _ _ _ h => h) (Or.inl ⟨by rfl, ?hy55⟩) (by assumption) ?rest55
  case hy55 => intro w hSw; (try dsimp only at hSw); go_simp; (try with_reducible rfl)
  (try simp only [PT])
  refine ready_at 55 rfl (by kernel_rfl) (fun K hK => ?_)
  go_simp
  refine (HLV.out _).mono ?_
  rintro ex va ⟨rfl, hb⟩
  have HB_va : Hid (Below w9.heap.size w9 va) := Lib.hid (below_step HB_v9.out hb)
  clear hb hHeld
  (try dsimp only)
  first
    | refine hK.out _ _ ?hS56 (fun hHeld => ?rest56)
    | (go_wp2_with fail; refine hK.out _ _ ?hS56 (fun hHeld => ?rest56))
  case hS56 => exact HSS.out _ HB_va.out
  clear hK K
  (try simp only [PT])
  refine take_at 56 (v := ?vv57) rfl (by kernel_rfl) (by kernel_rfl) (by kernel_rfl) (fun _ _ _ h => h) (Or.inl ⟨by rfl, ?hy57⟩) (by assumption) ?rest57
  case hy57 => intro w hSw; (try dsimp only at hSw); go_simp; (try with_reducible rfl)
  (try simp only [PT])
  refine take_at 57 (v := ?vv58) rfl (by kernel_rfl) (by kernel_rfl) (by kernel_rfl) (fun _ _ _ h => h) (Or.inl ⟨by rfl, ?hy58⟩) (by assumption) ?rest58
  case hy58 => intro w hSw; (try dsimp only at hSw); go_simp; (try with_reducible rfl)
  (try simp only [PT])
  refine wpAnyH_done (by kernel_rfl) ?_ _
  go_wp2
  go_ret
  exact ⟨rfl, below_step HB.out (below_step HB5.out (below_step HB9.out HB_va.out))⟩
structure Dy where
  k : Int
  w : Wq
  hd : w.dg.length = 32
  p : Option Addr
  c : Nat
  B : List Int
def Dy.s (x : Dy) : Value := .slice x.p x.B.length x.c
def Dy.f (x : Dy) : List Value := .int .i64 x.k :: (mixL x.w.a x.w.dg x.w.t ++ [x.s])
theorem Dy.wl (x : Dy) : (mixL x.w.a x.w.dg x.w.t).length = 39 := by rw [mixL_length, x.hd]; rfl
def encDy : Ec Dy where
  f := Dy.f
  k := 41
  t := 42
  d := ⟨0, wq0, rfl, none, 0, []⟩
  len := fun x => by unfold Dy.f; rw [List.length_cons, List.length_append, x.wl]; rfl
  one := fun x v hv => by
    unfold Dy.f at hv
    rcases List.mem_cons.1 hv with rfl | hv
    · rfl
    · rcases List.mem_append.1 hv with h | h
      · unfold mixL at h
        rcases List.mem_append.1 h with h | h
        · simp only [Wq.a, List.mem_cons, List.not_mem_nil, or_false] at h
          rcases h with rfl | rfl <;> rfl
        · rcases List.mem_append.1 h with h | h
          · obtain ⟨y, _, rfl⟩ := List.mem_map.1 h; rfl
          · simp only [Wq.t, List.mem_cons, List.not_mem_nil, or_false] at h
            rcases h with rfl | rfl | rfl | rfl | rfl <;> rfl
      · rw [List.mem_singleton] at h
        subst h
        rfl
  pos := by decide
theorem Gs.dy {W : World} {p : Option Addr} {n : Nat} {L : List Dy} (h : Gs encDy W p n L) (j : Nat) (hj : j < n) :
    ∃ b off x, p = some ⟨b, off, none⟩ ∧ L[j]? = some x ∧ x ∈ L ∧ W.rangeAt b (off + j * 41) x.f := by
  obtain ⟨b, off, hp, hc⟩ := h.ptr j hj
  have hl := h.len
  have hx : L[j]? = some (L[j]'(by omega)) := List.getElem?_eq_getElem _
  have e : L.getD j encDy.d = L[j]'(by omega) := by rw [List.getD_eq_getElem?_getD, hx]; rfl
  rw [e] at hc
  exact ⟨b, off, _, hp, hx, List.getElem_mem _, fun i v hv => hc i v hv⟩
/-! ### the reference's state in a block -/
def stA (q1 q2 q3 : Option Addr) (m1 d1 m2 d2 m3 d3 : Nat) : Array Value := #[.slice q1 m1 d1, .slice q2 m2 d2, .slice q3 m3 d3]
/-- a state of the reference in block G, read out of blocks of N -/
structure RfS (W : World) (G : Nat) (N : Nat → Prop) (y : Ps) (q1 q2 q3 : Option Addr) (m1 d1 m2 d2 m3 d3 : Nat) (o1 : List Ex) (o2 : List Tx) : Prop where
  sg : Sg W G (.slice q1 m1 d1) (.slice q2 m2 d2) (.slice q3 m3 d3)
  e : ReN W N q1 m1 o1
  t : ReT W N q2 m2 o2
  l : Gs encLo W q3 m3 (ldL y.L)
  ln : m3 ≠ 0 → ∀ b off, q3 = some ⟨b, off, none⟩ → N b
  ed : peL o1 = y.D
  td : ptL o2 = y.T
  ng : ¬ N G
section
variable {W V : World} {G : Nat} {N : Nat → Prop} {y : Ps} {q1 q2 q3 : Option Addr} {m1 d1 m2 d2 m3 d3 : Nat} {o1 : List Ex} {o2 : List Tx}
theorem RfS.hold (h : RfS W G N y q1 q2 q3 m1 d1 m2 d2 m3 d3 o1 o2) (hk : ∀ b, b = G ∨ N b → V.heap[b]? = W.heap[b]?) (hs : W.heap.size ≤ V.heap.size) : RfS V G N y q1 q2 q3 m1 d1 m2 d2 m3 d3 o1 o2 :=
  ⟨(hk G (Or.inl rfl)).trans h.sg, h.e.hold (fun b hb => hk b (Or.inr hb)) hs, h.t.hold (fun b hb => hk b (Or.inr hb)) hs, h.l.hold (fun hn b off e => hk b (Or.inr (h.ln hn b off e))), h.ln, h.ed, h.td, h.ng⟩
theorem RfS.lt (h : RfS W G N y q1 q2 q3 m1 d1 m2 d2 m3 d3 o1 o2) : ∀ b, b = G ∨ N b → b < W.heap.size := fun b hb => hb.elim (fun e => by rw [e]; exact h.sg.lt) (h.e.lt b)
theorem RfS.later (h : RfS W G N y q1 q2 q3 m1 d1 m2 d2 m3 d3 o1 o2) (hb : Below W.heap.size W V) : RfS V G N y q1 q2 q3 m1 d1 m2 d2 m3 d3 o1 o2 := h.hold (fun b h1 => hb.block b (h.lt b h1)) hb.size
end
/-- blocks of N, and new ones -/
def nextN (N : Nat → Prop) (W V : World) : Nat → Prop := fun b => N b ∨ (W.heap.size ≤ b ∧ b < V.heap.size)
theorem EnR.re {W V : World} {N : Nat → Prop} {p p' : Option Addr} {n n' : Nat} {L L' : List Ex} {a : Value} {D : List Pe} (h : ReN W N p n L) (hb : Below W.heap.size W V) (hE : EnR V W.heap.size p' n' L' a D) (hp : (p' = p ∧ n' = n) ∨ p' = none) (hL : ∀ x ∈ L', x ∈ L) :
    ∃ q m d o, a = .slice q m d ∧ peL o = D ∧ ReN V (nextN N W V) q m o := by
  obtain ⟨q, m, d, o, h1, h2, h3, h4, h5⟩ := hE
  refine ⟨q, m, d, o, h1, h2, h.next hb h3 (fun hn b off e => ?_) (fun x hx => (h5 x hx).imp (hL x) id)⟩
  rcases h4 with ⟨e1, e2⟩ | h4
  · rcases hp with ⟨e3, e4⟩ | e3
    · exact Or.inl (h.row (by omega) b off (by rw [← e3, ← e1]; exact e))
    · rw [e1, e3] at e; cases e
  · exact Or.inr (h4 b off e)
theorem TnR.re {W V : World} {N : Nat → Prop} {p p' : Option Addr} {n n' : Nat} {L L' : List Tx} {a : Value} {D : List Pt} (h : ReT W N p n L) (hb : Below W.heap.size W V) (hE : TnR V W.heap.size p' n' L' a D) (hp : (p' = p ∧ n' = n) ∨ p' = none) (hL : ∀ x ∈ L', x ∈ L) :
    ∃ q m d o, a = .slice q m d ∧ ptL o = D ∧ ReT V (nextN N W V) q m o := by
  obtain ⟨q, m, d, o, h1, h2, h3, h4, h5⟩ := hE
  refine ⟨q, m, d, o, h1, h2, h.next hb h3 (fun hn b off e => ?_) (fun x hx => (h5 x hx).imp (hL x) id)⟩
  rcases h4 with ⟨e1, e2⟩ | h4
  · rcases hp with ⟨e3, e4⟩ | e3
    · exact Or.inl (h.row (by omega) b off (by rw [← e3, ← e1]; exact e))
    · rw [e1, e3] at e; cases e
  · exact Or.inr (h4 b off e)
theorem LoR.re {W V : World} {N : Nat → Prop} {p p' : Option Addr} {n n' : Nat} {c : Value} {l : List (Int × Int)} (hN : n ≠ 0 → ∀ b off, p = some ⟨b, off, none⟩ → N b) (hE : LoR V W.heap.size p' n' c l) (hp : (p' = p ∧ n' = n) ∨ p' = none) :
    ∃ q m d, c = .slice q m d ∧ Gs encLo V q m (ldL l) ∧ (m ≠ 0 → ∀ b off, q = some ⟨b, off, none⟩ → nextN N W V b) := by
  obtain ⟨q, m, d, h1, h2, h4⟩ := hE
  refine ⟨q, m, d, h1, h2, fun hn b off e => ?_⟩
  rcases h4 with ⟨e1, e2⟩ | h4
  · rcases hp with ⟨e3, e4⟩ | e3
    · exact Or.inl (hN (by omega) b off (by rw [← e3, ← e1]; exact e))
    · rw [e1, e3] at e; cases e
  · refine Or.inr ⟨h4 b off e, ?_⟩
    subst e
    exact h2.block_lt (by omega)
/-- what a function of the reference answers, out of a state that lies so -/
theorem StQ.re {W V : World} {N : Nat → Prop} {p q r p' q' r' : Option Addr} {n m l n' m' l' : Nat} {L1 D : List Ex} {L2 T : List Tx} {y : Ps} {e : Ending} (h1 : ReN W N p n L1) (h2 : ReT W N q m L2) (h3 : l ≠ 0 → ∀ b off, r = some ⟨b, off, none⟩ → N b) (hS : StQ W p' q' r' n' m' l' D T y e V)
    (c1 : (p' = p ∧ n' = n) ∨ p' = none) (c2 : (q' = q ∧ m' = m) ∨ q' = none) (c3 : (r' = r ∧ l' = l) ∨ r' = none) (k1 : ∀ x ∈ D, x ∈ L1) (k2 : ∀ x ∈ T, x ∈ L2) :
    ∃ q1 m1 d1 o1 q2 m2 d2 o2 q3 m3 d3, e = .returned (.agg (stA q1 q2 q3 m1 d1 m2 d2 m3 d3)) ∧ peL o1 = y.D ∧ ReN V (nextN N W V) q1 m1 o1 ∧ ptL o2 = y.T ∧ ReT V (nextN N W V) q2 m2 o2 ∧ Gs encLo V q3 m3 (ldL y.L) ∧ (m3 ≠ 0 → ∀ b off, q3 = some ⟨b, off, none⟩ → nextN N W V b) ∧ Below W.heap.size W V := by
  obtain ⟨a, b, c, he, ha, hb, hc, hbl⟩ := hS
  obtain ⟨q1, m1, d1, o1, rfl, g1, g2⟩ := EnR.re h1 hbl ha c1 k1
  obtain ⟨q2, m2, d2, o2, rfl, g3, g4⟩ := TnR.re h2 hbl hb c2 k2
  obtain ⟨q3, m3, d3, rfl, g5, g6⟩ := LoR.re h3 hc c3
  exact ⟨q1, m1, d1, o1, q2, m2, d2, o2, q3, m3, d3, he, g1, g2, g3, g4, g5, g6, hbl⟩
section
variable {Sx : World → (Nat → Prop) → (Nat → Prop) → Value → Ps → Prop}
/-- the state, and the reference's -/
structure StS (Sx : World → (Nat → Prop) → (Nat → Prop) → Value → Ps → Prop) (w W : World) (v : Value) (S F N : Nat → Prop) (G : Nat) (x y : Ps) (q1 q2 q3 : Option Addr) (m1 d1 m2 d2 m3 d3 : Nat) (o1 : List Ex) (o2 : List Tx) : Prop where
  st : Sx W S F v x
  rf : RfS W G N y q1 q2 q3 m1 d1 m2 d2 m3 d3 o1 o2
  ds : ∀ b, S b → ¬ N b
  dg : ¬ S G ∧ ¬ F G
  sa : ∀ b, S b → w.heap.size ≤ b
  gw : w.heap.size ≤ G
  le : Below w.heap.size w W
variable {w W V : World} {v : Value} {S F N S' F' : Nat → Prop} {G : Nat} {x y x' : Ps} {q1 q2 q3 : Option Addr} {m1 d1 m2 d2 m3 d3 : Nat} {o1 : List Ex} {o2 : List Tx}
theorem StS.later (hT : StOk Sx) (h : StS Sx w W v S F N G x y q1 q2 q3 m1 d1 m2 d2 m3 d3 o1 o2) (hb : Below W.heap.size W V) : StS Sx w V v S F N G x y q1 q2 q3 m1 d1 m2 d2 m3 d3 o1 o2 :=
  ⟨hT.later h.st hb, h.rf.later hb, h.ds, h.dg, h.sa, h.gw, below_step h.le hb⟩
theorem StS.op (hT : StOk Sx) (h : StS Sx w W v S F N G x y q1 q2 q3 m1 d1 m2 d2 m3 d3 o1 o2) (hx : Sx V S' F' v x') (hc : Chg S W V) (hs : ∀ b, S' b → S b ∨ W.heap.size ≤ b) (hf : ∀ b, F' b → F b ∨ W.heap.size ≤ b) : StS Sx w V v S' F' N G x' y q1 q2 q3 m1 d1 m2 d2 m3 d3 o1 o2 := by
  have hl := h.rf.lt
  refine ⟨hx, h.rf.hold (fun b hb => hc.block b (hl b hb) (fun hS => hb.elim (fun e => h.dg.1 (by rw [← e]; exact hS)) (h.ds b hS))) hc.size, fun b hS hN => (hs b hS).elim (fun h1 => h.ds b h1 hN) (fun h1 => absurd (hl b (Or.inr hN)) (Nat.not_lt.2 h1)), ⟨fun e => (hs G e).elim h.dg.1 (fun h1 => absurd (hl G (Or.inl rfl)) (Nat.not_lt.2 h1)), fun e => (hf G e).elim h.dg.2 (fun h1 => absurd (hl G (Or.inl rfl)) (Nat.not_lt.2 h1))⟩,
    fun b hS => (hs b hS).elim (h.sa b) (Nat.le_trans h.le.size), h.gw, h.le.trans (hc.below h.sa h.le.size)⟩
/-- the reference's answer stored over the old one -/
theorem StS.put (hT : StOk Sx) (h : StS Sx w W v S F N G x y q1 q2 q3 m1 d1 m2 d2 m3 d3 o1 o2) (hb : Below W.heap.size W V) {y' : Ps} {p1 p2 p3 : Option Addr} {n1 c1 n2 c2 n3 c3 : Nat} {u1 : List Ex} {u2 : List Tx} (e1 : peL u1 = y'.D) (g1 : ReN V (nextN N W V) p1 n1 u1) (e2 : ptL u2 = y'.T) (g2 : ReT V (nextN N W V) p2 n2 u2) (g3 : Gs encLo V p3 n3 (ldL y'.L)) (g4 : n3 ≠ 0 → ∀ b off, p3 = some ⟨b, off, none⟩ → nextN N W V b) :
    StS Sx w (V.setRow G (stA p1 p2 p3 n1 c1 n2 c2 n3 c3)) v S F (nextN N W V) G x y' p1 p2 p3 n1 c1 n2 c2 n3 c3 u1 u2 := by
  have hG := h.rf.sg.lt
  have hnG : ∀ b, nextN N W V b → b ≠ G := fun b hb e => by
    rcases hb with hb | hb
    · exact h.rf.ng (by rw [← e]; exact hb)
    · omega
  have hk : ∀ b, b ≠ G → (V.setRow G (stA p1 p2 p3 n1 c1 n2 c2 n3 c3)).heap[b]? = V.heap[b]? := fun b hb => setRow_other _ _ _ _ hb
  have hsz : (V.setRow G (stA p1 p2 p3 n1 c1 n2 c2 n3 c3)).heap.size = V.heap.size := setRow_size _ _ _
  refine ⟨hT.keep (hT.later h.st hb) (fun b hb2 => hk b (fun e => hb2.elim (fun e2 => h.dg.1 (by rw [← e]; exact e2)) (fun e2 => h.dg.2 (by rw [← e]; exact e2)))) (by rw [hsz]; exact Nat.le_refl _),
    ⟨Sg.row (h.rf.sg.later hb), g1.hold (fun b hN => hk b (hnG b hN)) (by rw [hsz]; exact Nat.le_refl _), g2.hold (fun b hN => hk b (hnG b hN)) (by rw [hsz]; exact Nat.le_refl _), g3.hold (fun hn b off e => hk b (hnG b (g4 hn b off e))), g4, e1, e2, fun e => hnG G e rfl⟩,
    fun b hS hN => hN.elim (h.ds b hS) (fun h1 => absurd (hT.lt h.st b (Or.inl hS)) (Nat.not_lt.2 h1.1)), h.dg, h.sa, h.gw, below_setRow8 (below_step h.le hb) _ _ h.gw⟩
end
/-- how much there is of a state behind k deeds -/
structure FewK (x : Ps) (a b c k : Nat) : Prop where
  n : x.D.length + x.T.length ≤ a + k
  l : x.L.length ≤ b + k
  i : insLe x.D (c + k)
  j : insLeT x.T (c + k)
theorem FewK.few {x : Ps} {a b c k : Nat} (h : FewK x a b c k) (ha : a + k ≤ 1048576) (hb : b + k ≤ 1048576) (hc : c + k ≤ 2097151) : x.Few :=
  ⟨Nat.le_trans h.n ha, Nat.le_trans h.l hb, fun y hy => Nat.le_trans (h.i y hy) hc, fun y hy => Nat.le_trans (h.j y hy) hc⟩
theorem apply_one (x : Ps) (w : Wq) : (applyS x w).D.length + (applyS x w).T.length ≤ x.D.length + x.T.length + 1 := by
  show (applyE x.D w).length + (applyT x.T w).length ≤ _
  have h1 := applyE_length x.D w
  have h2 := applyT_length x.T w
  by_cases hk : w.k = 3 ∨ w.k = 4
  · have e : applyE x.D w = x.D := by
      unfold applyE
      rw [if_neg (fun h => by omega), if_neg (fun h => by omega)]
    rw [e]
    omega
  · have e : applyT x.T w = x.T := by
      unfold applyT
      rw [if_neg (fun h => by omega), if_neg (fun h => by omega)]
    rw [e]
    omega
theorem FewK.apply {x : Ps} {a b c k : Nat} (h : FewK x a b c k) (w : Wq) : FewK (applyS x w) a b c (k + 1) :=
  ⟨by have h1 := apply_one x w; have h2 := h.n; omega, by have h1 := applyL_length x.L w; have h2 := h.l; show (applyL x.L w).length ≤ _; omega, applyE_ins h.i, applyT_ins h.j⟩
theorem FewK.keep {x : Ps} {a b c k : Nat} (h : FewK x a b c k) (B : List Int) : FewK (keepS x B) a b c (k + 1) :=
  ⟨by have h1 := keepR_length x.D B; have h2 := keepTs_length x.T B; have h3 := h.n; show (keepR x.D B).length + (keepTs x.T B).length ≤ _; omega, by have h1 := List.length_filter_le (fun y : Int × Int => decide (y.1 ∈ B)) x.L; have h2 := h.l; show (x.L.filter fun y => decide (y.1 ∈ B)).length ≤ _; omega,
   fun y hy => Nat.le_succ_of_le (keepR_ins h.i B y hy), fun y hy => Nat.le_succ_of_le (keepTs_ins h.j B y hy)⟩
theorem newL_length (l : List (Int × Int)) : (newL l).length ≤ l.length := by
  have : ∀ (l o : List (Int × Int)), (l.foldl (fun o x => loadP o x.1 x.2 true) o).length ≤ o.length + l.length := by
    intro l
    induction l with
    | nil => intro o; simp
    | cons x l ih =>
      intro o
      have h1 := ih (loadP o x.1 x.2 true)
      have h2 := loadP_length o x.1 x.2 true
      rw [List.foldl_cons, List.length_cons]
      omega
  simpa [newL] using this l []
theorem FewK.new {D : List Pe} {T : List Pt} {L : List (Int × Int)} {c : Nat} (hi : insLe D c) (hj : insLeT T c) : FewK (newS D T L) (D.length + T.length) L.length c 0 :=
  ⟨by have h1 := newE_length D; have h2 := newT_length T; show (newE D).length + (newT T).length ≤ _; omega, newL_length L, newE_ins hi, newT_ins hj⟩
end Go.Proofs.YtpfbfhigelbfcaaGreat

