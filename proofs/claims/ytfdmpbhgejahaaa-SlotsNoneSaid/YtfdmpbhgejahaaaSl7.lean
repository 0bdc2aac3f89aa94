/- Rows of digests that a call makes: append, read; Layer 18, the laws: what they want of package slots (Table[int]); What is wanted of digest.Row; The law SlotsMany, walked under contracts. (gen_sloy.py) -/
import Derived.Test.YtfdmpbhgejahaaaSl2
import Derived.Test.YtfdmpbhgejahaaaSl5
import Derived.Test.YtfdmpbhgejahaaaSl6
import Derived.Great.BuildSlice
set_option linter.unusedSimpArgs false
set_option linter.unusedVariables false
namespace Go.Proofs.Ytfdmpbhgejahaaa
set_option linter.unusedVariables false
open Go.RowKit Go.Lib

/-- the cells of digests, one behind another -/
def dcells : List (List Int) → List Value
  | [] => []
  | d :: L => d.map (Value.int .u8) ++ dcells L
theorem dcells_append (L M : List (List Int)) : dcells (L ++ M) = dcells L ++ dcells M := by
  induction L with
  | nil => rfl
  | cons d L ih => simp [dcells, ih]
theorem dcells_length {L : List (List Int)} (h : ∀ d ∈ L, dok d) : (dcells L).length = L.length * 32 := by
  induction L with
  | nil => rfl
  | cons d L ih =>
    rw [dcells, List.length_append, List.length_map, (h d (by simp)).1, ih (fun x hx => h x (by simp [hx])), List.length_cons]
    omega
theorem dcells_get {L : List (List Int)} (h : ∀ d ∈ L, dok d) (j k : Nat) (hj : j < L.length) (hk : k < 32) : (dcells L)[j * 32 + k]? = some (.int .u8 ((L.getD j []).getD k 0)) := by
  induction L generalizing j with
  | nil => simp at hj
  | cons d L ih =>
    have hd := h d (by simp)
    cases j with
    | zero =>
      rw [dcells, List.getElem?_append_left (by rw [List.length_map, hd.1]; omega)]
      have : k < d.length := by rw [hd.1]; exact hk
      simp [List.getD_eq_getElem?_getD, this]
    | succ j =>
      rw [dcells, List.getElem?_append_right (by rw [List.length_map, hd.1]; omega), List.length_map, hd.1, show (j + 1) * 32 + k - 32 = j * 32 + k by omega, ih (fun x hx => h x (by simp [hx])) j (by simpa using hj)]
      simp
theorem dcells_one {L : List (List Int)} {u : Value} (h : u ∈ dcells L) : u.oneCell' = true := by
  induction L with
  | nil => simp [dcells] at h
  | cons d L ih =>
    rw [dcells] at h
    rcases List.mem_append.1 h with h | h
    · obtain ⟨z, _, rfl⟩ := List.mem_map.1 h
      rfl
    · exact ih h
theorem info24 : (Try.prog.info? 30).map (fun i => (i.zero, i.size, i.bytes)) = some (some (.agg (bcs dzero)), 32, 32) := by kernel_rfl

/-- A row of the call's own from block B on, whose first elements are these digests. -/
def Od (w : World) (B : Nat) (v : Value) (L : List (List Int)) : Prop := (∀ d ∈ L, dok d) ∧ w.ownsRow B 30 32 v L.length (dcells L)
theorem Od.nil (w : World) (B : Nat) : Od w B (.slice none 0 0) [] := ⟨by simp, World.ownsRow_nil w B _ 32⟩
theorem Od.open {w : World} {B : Nat} {v : Value} {L : List (List Int)} (h : Od w B v L) :
    ∃ p cap, v = .slice p L.length cap ∧ L.length ≤ cap ∧ cap ≤ maxLen ∧ Ds w p L.length L ∧ (p = none → cap = 0) ∧ (∀ a, p = some a → B ≤ a.block ∧ a.block < w.heap.size) := by
  have h' := h
  obtain ⟨hok, hl, h2⟩ := h
  rcases h2 with ⟨rfl, h0⟩ | ⟨g, cap, cur, rfl, hB, hg, hn, hm, hs, ht⟩
  · exact ⟨none, 0, by rw [h0], by omega, by simp, ⟨rfl, hok, Or.inl h0⟩, fun _ => rfl, by simp⟩
  · refine ⟨_, cap, rfl, hn, hm, ⟨rfl, hok, Or.inr ⟨g, 0, rfl, fun j k hj hk => ?_⟩⟩, by simp, fun a ha => ?_⟩
    · have h3 := h'.2.cells (g := g) rfl (j * 32 + k) _ (dcells_get hok j k hj hk)
      rw [WideShapes.add_plain] at h3
      exact h3
    · cases ha
      exact ⟨hB, (Array.getElem?_eq_some_iff.1 hg).1⟩
theorem Od.later {w w' : World} {B : Nat} {v : Value} {L : List (List Int)} (h : Od w B v L) (hb : Below w.heap.size w w') : Od w' B v L := by
  obtain ⟨hok, hl, h2⟩ := h
  refine ⟨hok, hl, ?_⟩
  rcases h2 with h2 | ⟨g, cap, cur, hv, hB, hg, r⟩
  · exact Or.inl h2
  · have hlt : g < w.heap.size := (Array.getElem?_eq_some_iff.1 hg).1
    exact Or.inr ⟨g, cap, cur, hv, hB, by rw [hb.block g hlt]; exact hg, r⟩
theorem Od.alloc {w : World} {B : Nat} {v : Value} {L : List (List Int)} (h : Od w B v L) (o : Obj) : Od (w.alloc o) B v L := h.later ((Below.refl _ _).alloc (Nat.le_refl _) _)
theorem Od.mono {w : World} {B B' : Nat} {v : Value} {L : List (List Int)} (h : Od w B v L) (hB : B' ≤ B) : Od w B' v L := by
  obtain ⟨hok, hl, h2⟩ := h
  refine ⟨hok, hl, ?_⟩
  rcases h2 with h2 | ⟨g, cap, cur, hv, hb, r⟩
  · exact Or.inl h2
  · exact Or.inr ⟨g, cap, cur, hv, by omega, r⟩
theorem Od.ds {w : World} {B n c : Nat} {p : Option Addr} {L : List (List Int)} (h : Od w B (.slice p n c) L) : Ds w p n L := by
  obtain ⟨p', c', hv, _, _, h3, _⟩ := h.open
  simp only [Value.slice.injEq] at hv
  obtain ⟨rfl, rfl, rfl⟩ := hv
  exact h3
theorem Od.len {w : World} {B n c : Nat} {p : Option Addr} {L : List (List Int)} (h : Od w B (.slice p n c) L) : L.length = n := h.ds.1
theorem Od.ptr {w : World} {B n cap : Nat} {p : Option Addr} {L : List (List Int)} (h : Od w B (.slice p n cap) L) (hn : 0 < n) : ∃ g, p = some ⟨g, 0, none⟩ := by
  rcases h.2.2 with ⟨hv, h0⟩ | ⟨g, cap', cur, hv, _⟩
  · simp only [Value.slice.injEq] at hv; omega
  · simp only [Value.slice.injEq] at hv; exact ⟨g, hv.1⟩
theorem below_new_od {B : Nat} {a w w' : World} {v : Value} {L : List (List Int)} (hb : Below B a w) (ho : Od w B v L) (h : w.grownBy w' v.ownBlock) (hB : B ≤ w.heap.size) : Below B a w' :=
  hb.grown h hB (fun j hj => (ho.2.lt j hj).1)
theorem Od.one (w : World) (B : Nat) (d : List Int) (hd : dok d) (hB : B ≤ w.heap.size) : Od (w.alloc (.cells (bcs d) 30)) B (.slice (some ⟨w.heap.size, 0, none⟩) 1 1) [d] := by
  refine ⟨by simpa using hd, ?_⟩
  have hs : (bcs d).size = 1 * 32 := by rw [bcs_size, hd.1]
  have h := World.ownsRow_lit (base := B) (e := 30) (size := 32) w (bcs d) 1 hB (by unfold maxLen; omega) hs
  have e : dcells [d] = (bcs d).toList := by simp [dcells, bcs]
  rw [e]
  exact h

variable {P : Program}
/-- 'append(s, x...)', s of the call's own, x any digests: at one operation. -/
theorem wp_append_digs {w : World} {o : Oper} {a : Act} {K : Act → World → Prop} {Q : Exit → Act → World → Prop} (s x : Operand) (t : TypeId)
    (ho : o.op = .call { callee := .builtin .append, args := #[s, x], argTypes := #[t, t] }) (ht : P.underlying t = some (.slice 30))
    (hinfo : (P.info? 30).map (fun i => (i.zero, i.size, i.bytes)) = some (some (.agg (bcs dzero)), 32, 32))
    (B : Nat) (v : Value) (L : List (List Int)) (hs : a.eval s = v) (hob : Od w B v L) (p : Option Addr) (m c : Nat) (M : List (List Int)) (hx : a.eval x = .slice p m c) (hbs : Ds w p m M) (hpc : p = none → c = 0)
    (hbytes : (L.length + m) * 32 ≤ 140737488355328) (hB : B ≤ w.heap.size)
    (h : ∀ v' w', Od w' B v' (L ++ M) → w.grownBy w' v.ownBlock → K (a.put o.dst v') w') : o.wp P a w K Q := by
  obtain ⟨i, hi, hzz⟩ := Option.map_eq_some_iff.1 hinfo
  simp only [Prod.mk.injEq] at hzz
  obtain ⟨hz, hsz, hb⟩ := hzz
  obtain ⟨hy1, hy2, hy3⟩ := hbs
  cases p with
  | none =>
    obtain rfl := hpc rfl
    have hm : m = 0 := by
      rcases hy3 with h0 | ⟨_, _, hh, _⟩
      · exact h0
      · cases hh
    subst hm
    obtain rfl : M = [] := List.length_eq_zero_iff.1 hy1
    have hrun := run_append_owned_none (P := P) (w := w) B t o.type 30 i 32 ht hi v _ _ hob.2
    unfold Oper.wp
    simp [execOp, ho, resolve, invoke, builtin, hs, hx, hrun, Result.andThen]
    exact h _ _ (by rw [List.append_nil]; exact hob) ⟨rfl, rfl, rfl, Nat.le_refl _, fun _ _ _ => rfl⟩
  | some ad =>
    refine wp_append_own _ s x t ho B 30 i (.agg (bcs dzero)) 32 32 ht hi hz hsz hb rfl (by decide) v _ _ hs hob.2 ad m c (dcells M) hx (by rw [dcells_length hy2, hy1]) ?_ (fun u hu => dcells_one hu) (by unfold maxLen; omega) hbytes hB ?_
    · intro j u hu
      have hj : j < m * 32 := by
        have := (List.getElem?_eq_some_iff.1 hu).1
        rw [dcells_length hy2, hy1] at this
        exact this
      rcases hy3 with h0 | ⟨b, off, hp, hc⟩
      · omega
      · obtain rfl : ad = ⟨b, off, none⟩ := by simpa using hp
        have h1 := dcells_get hy2 (j / 32) (j % 32) (by omega) (by omega)
        rw [show j / 32 * 32 + j % 32 = j by omega, hu] at h1
        rw [WideShapes.add_plain]
        have h2 := hc (j / 32) (j % 32) (by omega) (by omega)
        rw [show j / 32 * 32 + j % 32 = j by omega] at h2
        rw [h2, ← h1]
    · intro v' w' h1 h2 _
      refine h v' w' ⟨fun d hd => ?_, ?_⟩ h2
      · rcases List.mem_append.1 hd with hd | hd
        · exact hob.1 d hd
        · exact hy2 d hd
      · rw [List.length_append, hy1, dcells_append]
        exact h1
theorem wpList_append_digs {w : World} {ops : Array Oper} {rest : List Oper} {o : Oper} {a : Act} {Q : Exit → Act → World → Prop} (hgd : o.guard = none) (s x : Operand) (t : TypeId)
    (ho : o.op = .call { callee := .builtin .append, args := #[s, x], argTypes := #[t, t] }) (ht : P.underlying t = some (.slice 30))
    (hinfo : (P.info? 30).map (fun i => (i.zero, i.size, i.bytes)) = some (some (.agg (bcs dzero)), 32, 32))
    (B : Nat) (v : Value) (L : List (List Int)) (hs : a.eval s = v) (hob : Od w B v L) (p : Option Addr) (m c : Nat) (M : List (List Int)) (hx : a.eval x = .slice p m c) (hbs : Ds w p m M) (hpc : p = none → c = 0)
    (hbytes : (L.length + m) * 32 ≤ 140737488355328) (hB : B ≤ w.heap.size)
    (h : ∀ v' w', Od w' B v' (L ++ M) → w.grownBy w' v.ownBlock → wpList P ops Q rest (a.put o.dst v') w') : wpList P ops Q (o :: rest) a w :=
  wpList_plain hgd fun _ hK => wp_append_digs s x t ho ht hinfo B v L hs hob p m c M hx hbs hpc hbytes hB fun v' w' h1 h2 => hK _ _ (h v' w' h1 h2)
/-- '[]Digest{x}': one digest laid anew. -/
theorem wp_build_dig {o : Oper} {a : Act} {w : World} {K : Act → World → Prop} {Q : Exit → Act → World → Prop} (t : TypeId) (x : Nat) (ho : o.op = .buildSlice t 1 #[(0, .tmp x)])
    (hu : P.underlying t = some (.slice 30)) (hinfo : (P.info? 30).map (fun i => (i.zero, i.size, i.bytes)) = some (some (.agg (bcs dzero)), 32, 32))
    (d : List Int) (hd : d.length = 32) (hx : a.eval (.tmp x) = .agg (bcs d))
    (h : K (a.put o.dst (.slice (some ⟨w.heap.size, 0, none⟩) 1 1)) (w.alloc (.cells (bcs d) 30))) : o.wp P a w K Q := by
  obtain ⟨i, hi, hzz⟩ := Option.map_eq_some_iff.1 hinfo
  simp only [Prod.mk.injEq] at hzz
  obtain ⟨hz, hsz, hb⟩ := hzz
  refine wp_buildSlice t 30 1 _ ho (bcs d) i _ hu hi hz (by rw [hsz]; decide) (by rw [hsz]; decide) ?_ h
  rw [hsz]
  have hf := Great.fill_whole (s := 32) (by decide) [.agg (bcs d)] ((Array.range (1 * 32)).map ((Value.agg (bcs dzero)).cells[· % (Value.agg (bcs dzero)).cells.size]!)) (by
    intro v hv
    rw [List.mem_singleton] at hv
    subst hv
    show (bcs d).size = 32
    rw [bcs_size, hd]) (by simp)
  have e : (#[(0, Operand.tmp x)].map fun (p : Nat × Operand) => (p.1, a.eval p.2)).toList = [((0 : Nat), Value.agg (bcs d))] := by
    simp [hx]
  rw [e]
  refine (Eq.trans ?_ hf).trans ?_
  · rfl
  · simp [Value.cells]
theorem wpList_build_dig {ops : Array Oper} {rest : List Oper} {o : Oper} {a : Act} {w : World} {Q : Exit → Act → World → Prop} (hg : o.guard = none) (t : TypeId) (x : Nat) (ho : o.op = .buildSlice t 1 #[(0, .tmp x)])
    (hu : P.underlying t = some (.slice 30)) (hinfo : (P.info? 30).map (fun i => (i.zero, i.size, i.bytes)) = some (some (.agg (bcs dzero)), 32, 32))
    (d : List Int) (hd : d.length = 32) (hx : a.eval (.tmp x) = .agg (bcs d))
    (h : wpList P ops Q rest (a.put o.dst (.slice (some ⟨w.heap.size, 0, none⟩) 1 1)) (w.alloc (.cells (bcs d) 30))) : wpList P ops Q (o :: rest) a w :=
  wpList_plain hg fun _ hK => wp_build_dig t x ho hu hinfo d hd hx (hK _ _ h)
end Go.Proofs.Ytfdmpbhgejahaaa

namespace Go.Proofs.Ytfdmpbhgejahaaa
set_option linter.unusedVariables false
open Go.RowKit Go.Lib

/-- blocks of S may turn, and new ones come -/
structure Chg (S : Nat → Prop) (w w' : World) : Prop where
  os : w'.os = w.os
  tape : w'.tape = w.tape
  output : w'.output = w.output
  size : w.heap.size ≤ w'.heap.size
  block : ∀ k, k < w.heap.size → ¬ S k → w'.heap[k]? = w.heap[k]?
theorem Chg.below {S : Nat → Prop} {w w' : World} {B : Nat} (h : Chg S w w') (hS : ∀ b, S b → B ≤ b) (hB : B ≤ w.heap.size) : Below B w w' :=
  ⟨h.os, h.tape, h.output, h.size, fun k hk => h.block k (Nat.lt_of_lt_of_le hk hB) fun hs => absurd (hS k hs) (Nat.not_le.2 hk)⟩
theorem Below.chg {S : Nat → Prop} {w w' : World} (h : Below w.heap.size w w') : Chg S w w' := ⟨h.os, h.tape, h.output, h.size, fun k hk _ => h.block k hk⟩
/-- Tb w S v L s: in w, v is a table that holds L in s slots; its blocks are those of S. -/
structure TabOk (Tb : World → (Nat → Prop) → Value → List Pr → Int → Prop) : Prop where
  keep : ∀ {w w' : World} {S : Nat → Prop} {v : Value} {L : List Pr} {s : Int}, Tb w S v L s → (∀ b, S b → w'.heap[b]? = w.heap[b]?) → Tb w' S v L s
  lt : ∀ {w : World} {S : Nat → Prop} {v : Value} {L : List Pr} {s : Int}, Tb w S v L s → ∀ b, S b → b < w.heap.size
  new : ∀ w : World, Calls Try.prog 6 #[] w fun e w' => ∃ v S, e = .returned v ∧ Tb w' S v [] 8 ∧ Below w.heap.size w w' ∧ ∀ b, S b → w.heap.size ≤ b
  put : ∀ {w : World} {S : Nat → Prop} {v : Value} {L : List Pr} {s : Int} (d : List Int) (x : Int), Tb w S v L s → dok d → L.length ≤ 1048576 → Calls Try.prog 8 #[v, .agg (bcs d), .int .i64 x] w fun e w' =>
    ∃ S', e = .returned (.tuple #[]) ∧ Tb w' S' v (putN L d x) (slotsN L s d) ∧ Chg S w w' ∧ ∀ b, S' b → S b ∨ w.heap.size ≤ b
  get : ∀ {w : World} {S : Nat → Prop} {v : Value} {L : List Pr} {s : Int} (d : List Int), Tb w S v L s → dok d → Calls Try.prog 13 #[v, .agg (bcs d)] w fun e w' =>
    e = .returned (.tuple #[.int .i64 ((getN L d).getD 0), .bool (getN L d).isSome]) ∧ Below w.heap.size w w'
  cut : ∀ {w : World} {S : Nat → Prop} {v : Value} {L : List Pr} {s : Int} (d : List Int), Tb w S v L s → dok d → Calls Try.prog 11 #[v, .agg (bcs d)] w fun e w' =>
    ∃ S', e = .returned (.bool (getN L d).isSome) ∧ Tb w' S' v (cutN L d) s ∧ Chg S w w' ∧ ∀ b, S' b → S b ∨ w.heap.size ≤ b
  len : ∀ {w : World} {S : Nat → Prop} {v : Value} {L : List Pr} {s : Int}, Tb w S v L s → Calls Try.prog 14 #[v] w fun e w' => e = .returned (.int .i64 (L.length : Int)) ∧ Below w.heap.size w w'
  slots : ∀ {w : World} {S : Nat → Prop} {v : Value} {L : List Pr} {s : Int}, Tb w S v L s → Calls Try.prog 15 #[v] w fun e w' => e = .returned (.int .i64 s) ∧ Below w.heap.size w w'
theorem TabOk.later {Tb : World → (Nat → Prop) → Value → List Pr → Int → Prop} (hT : TabOk Tb) {w w' : World} {S : Nat → Prop} {v : Value} {L : List Pr} {s : Int} (h : Tb w S v L s) (hb : Below w.heap.size w w') : Tb w' S v L s :=
  hT.keep h fun b hs => hb.block b (hT.lt h b hs)
/-- what SlotsDoes wants more -/
def TabRow (Tb : World → (Nat → Prop) → Value → List Pr → Int → Prop) : Prop := ∀ {w : World} {S : Nat → Prop} {v : Value} {L : List Pr} {s : Int}, Tb w S v L s → L.length ≤ 1048576 → Calls Try.prog 17 #[v] w fun e w' =>
    ∃ u, e = .returned u ∧ Od w' w.heap.size u (drow (keysN L)) ∧ Below w.heap.size w w'
def lvS : List Int := 1 :: List.replicate 31 0
theorem lvS_ok : dok lvS := ⟨rfl, fun j => by
  by_cases hj : j < 32
  · have : ∀ j : Fin 32, 0 ≤ lvS.getD j.val 0 ∧ lvS.getD j.val 0 < 256 := by decide
    exact this ⟨j, hj⟩
  · rw [List.getD_eq_getElem?_getD, List.getElem?_eq_none (by show 32 ≤ j; omega)]
    simp⟩
set_option maxRecDepth 100000 in
set_option maxHeartbeats 1000000 in
theorem lives18_any {Tb : World → (Nat → Prop) → Value → List Pr → Int → Prop} (hT : TabOk Tb) (w : World) : Calls Try.prog 19 #[] w fun e w' => e = .returned (.bool true) ∧ Below w.heap.size w w' := by
  have HT := Lib.hid hT
  clear hT
  go_enter Try.func19, Try.ntmps19
  go_wp2_with fail
  refine (HT.out.new _).mono ?_
  rintro e w1 ⟨v, S, rfl, ht1, hb1, hs1⟩
  have HT1 := Lib.hid ht1
  have HB1 := Lib.hid hb1
  have HS1 := Lib.hid hs1
  clear ht1 hb1 hs1
  go_wp2_with (first
    | (refine wpList_build_is rfl 30 _ rfl (bcs lvS) ?_ ?_; focus kernel_rfl)
    | (go_at_call 8; refine (HT.out.put lvS 7 HT1.out lvS_ok (by simp)).mono ?_; rintro e w2 ⟨S2, rfl, ht2, hc2, hs2⟩; have HT2 := Lib.hid ht2; have HB2 := Lib.hid (HB1.out.trans (hc2.below HS1.out HB1.out.size)); clear ht2 hc2 hs2)
    | (go_at_call 13; refine (HT.out.get lvS HT2.out lvS_ok).mono ?_; rintro e w3 ⟨rfl, hb3⟩; have HT3 := Lib.hid (HT.out.later HT2.out hb3); have HB3 := Lib.hid (below_step HB2.out hb3); clear hb3)
    | (go_at_call 14; refine (HT.out.len HT3.out).mono ?_; rintro e w4 ⟨rfl, hb4⟩; have HT4 := Lib.hid (HT.out.later HT3.out hb4); have HB4 := Lib.hid (below_step HB3.out hb4); clear hb4)
    | (go_at_call 15; refine (HT.out.slots HT4.out).mono ?_; rintro e w5 ⟨rfl, hb5⟩; have HB5 := Lib.hid (below_step HB4.out hb5); clear hb5))
  go_ret
  exact ⟨rfl, HB5.out⟩
end Go.Proofs.Ytfdmpbhgejahaaa

namespace Go.Proofs.Ytfdmpbhgejahaaa
set_option linter.unusedVariables false
open Go.RowKit Go.Lib

def RowOk : Prop := ∀ (p : Option Addr) (n cap : Nat) (L : List (List Int)) (w : World), Ds w p n L → (p = none → cap = 0) → n ≤ cap → cap ≤ maxLen → n ≤ 1048576 → Calls Try.prog 30 #[.slice p n cap] w fun e w' => ∃ v, e = .returned v ∧ Od w' w.heap.size v (drow L) ∧ Below w.heap.size w w'
end Go.Proofs.Ytfdmpbhgejahaaa

namespace Go.Proofs.Ytfdmpbhgejahaaa
set_option linter.unusedVariables false
open Go.RowKit Go.Lib

def intY (v : Value) : Int := match v with | .int _ x => x | _ => 0
theorem mkC (low : Int) {k : Nat} (hk : k < 65536) : bcs (mkD low k) = (#[.int .u8 low, .int .u8 0, .int .u8 ((k : Int) % 256), .int .u8 ((k : Int) / 256), .int .u8 0, .int .u8 0, .int .u8 0, .int .u8 0, .int .u8 0, .int .u8 0, .int .u8 0, .int .u8 0, .int .u8 0, .int .u8 0, .int .u8 0, .int .u8 0, .int .u8 0, .int .u8 0, .int .u8 0, .int .u8 0, .int .u8 0, .int .u8 0, .int .u8 0, .int .u8 0, .int .u8 0, .int .u8 0, .int .u8 0, .int .u8 0, .int .u8 0, .int .u8 0, .int .u8 0, .int .u8 0] : Array Value) := by
  have e1 : ((k % 256 : Nat) : Int) = (k : Int) % 256 := by omega
  have e2 : ((k / 256 % 256 : Nat) : Int) = (k : Int) / 256 := by omega
  unfold mkD
  rw [e1, e2]
  rfl
structure MnS (Tb : World → (Nat → Prop) → Value → List Pr → Int → Prop) (w W : World) (v : Value) (S : Nat → Prop) (L : List Pr) (s : Int) : Prop where
  tb : Tb W S v L s
  sw : ∀ b, S b → w.heap.size ≤ b
  le : Below w.heap.size w W
theorem MnS.later {Tb : World → (Nat → Prop) → Value → List Pr → Int → Prop} (hT : TabOk Tb) {w W W1 : World} {v : Value} {S : Nat → Prop} {L : List Pr} {s : Int} (h : MnS Tb w W v S L s) (hb : Below W.heap.size W W1) : MnS Tb w W1 v S L s :=
  ⟨hT.later h.tb hb, h.sw, below_step h.le hb⟩
theorem MnS.chg {Tb : World → (Nat → Prop) → Value → List Pr → Int → Prop} {w W W1 : World} {v : Value} {S S' : Nat → Prop} {L L' : List Pr} {s s' : Int} (h : MnS Tb w W v S L s) (t : Tb W1 S' v L' s') (c : Chg S W W1) (hs : ∀ b, S' b → S b ∨ W.heap.size ≤ b) : MnS Tb w W1 v S' L' s' :=
  ⟨t, fun b hb => (hs b hb).elim (h.sw b) (fun e => Nat.le_trans h.le.size e), h.le.trans (c.below h.sw h.le.size)⟩
set_option maxRecDepth 100000 in
set_option maxHeartbeats 4000000 in
theorem slotsmany_any {Tb : World → (Nat → Prop) → Value → List Pr → Int → Prop} (hT : TabOk Tb) (many cut low : Int) (w : World) (hc : -9223372036854775808 ≤ cut ∧ cut ≤ 9223372036854775807) (hl : 0 ≤ low ∧ low < 256) :
    Calls Try.prog 4 #[.int .i64 many, .int .i64 cut, .int .u8 low] w fun e w' => e = .returned (.bool true) ∧ Below w.heap.size w w' := by
  have HT := Lib.hid hT
  have HLV := Lib.hid fun W => lives18_any hT W
  have HLO := Lib.hid hl
  clear hT
  by_cases hlo : many < 0
  · go_enter Try.func4, Try.ntmps4
    go_wp2_with (go_at_call 19; refine (HLV.out _).mono ?_; rintro e w1 ⟨rfl, hb1⟩; have HB1 := Lib.hid hb1; clear hb1)
    go_ret
    exact ⟨rfl, HB1.out⟩
  · by_cases hhi : 600 < many
    · go_enter Try.func4, Try.ntmps4
      go_wp2_with (go_at_call 19; refine (HLV.out _).mono ?_; rintro e w1 ⟨rfl, hb1⟩; have HB1 := Lib.hid hb1; clear hb1)
      go_ret
      exact ⟨rfl, HB1.out⟩
    · obtain ⟨n, rfl⟩ : ∃ n : Nat, many = (n : Int) := ⟨many.toNat, by omega⟩
      have hn : n ≤ 600 := by omega
      have hn6 : ¬ (600 : Int) < (n : Int) := by omega
      have hn0 : ¬ (n : Int) < 0 := by omega
      clear hlo hhi
      go_enter Try.func4, Try.ntmps4
      go_wp2_with fail
      refine (HT.out.new _).mono ?_
      rintro e w1 ⟨v, S0, rfl, ht1, hb1, hs1⟩
      have HM0 : Hid (MnS Tb w w1 v S0 (rngL low 0 0) 8) := Lib.hid ⟨ht1, hs1, hb1⟩
      clear ht1 hb1 hs1
      go_wp2
      go_loopw [8] (fun iv wr => ∃ (k : Nat) (S : Nat → Prop) (s : Int), k ≤ n ∧ iv = .int .i64 (k : Int) ∧ Hid (MnS Tb w wr v S (rngL low 0 k) s) ∧ Hid (8 ≤ s ∧ (k : Int) * 4 ≤ s * 3 ∧ s ≤ 8 + 4 * (k : Int))) (fun iv _ => n - (intY iv).toNat)
      case atStart => exact ⟨0, S0, 8, by omega, rfl, HM0, Lib.hid ⟨by omega, by omega, by omega⟩⟩
      case round =>
        obtain ⟨k, S, s, hkn, rfl, HM, HNK⟩ := hrel
        by_cases hlt : k < n
        · have hki : (k : Int) < (n : Int) := by omega
          have hk0 : (0 : Int) ≤ (k : Int) := by omega
          have hp := HT.out.put (mkD low k) (k : Int) HM.out.tb (mkD_ok HLO.out k) (by rw [rngL_length]; omega)
          have hs := rngL_slots (low := low) (k := k) (s := s) (by omega) HNK.out.1 HNK.out.2.1 HNK.out.2.2
          rw [rngL_put (by omega)] at hp
          obtain ⟨s', hs'⟩ : ∃ x, slotsN (rngL low 0 k) s (mkD low k) = x := ⟨_, rfl⟩
          rw [hs'] at hp hs
          rw [mkC low (by omega : k < 65536)] at hp
          have HP := Lib.hid hp
          have HS := Lib.hid hs
          clear hp hs hs'
          go_wp2_with fail
          refine HP.out.mono ?_
          rintro e w2 ⟨S', rfl, ht, hcg, hss⟩
          have HM2 := Lib.hid (HM.out.chg ht hcg hss)
          clear ht hcg hss
          go_wp2
          exact ⟨⟨k + 1, S', s', by omega, by go_num, HM2, HS⟩, by simp [intY] <;> omega⟩
        · obtain rfl : k = n := by omega
          have hkk : ¬ (k : Int) < (k : Int) := by omega
          go_wp2
          clear hkk hlt hkn
          go_loopw [9] (fun iv wr => ∃ (j : Nat) (S : Nat → Prop), j ≤ k ∧ iv = .int .i64 (j : Int) ∧ (j = 0 ∨ (j : Int) ≤ cut) ∧ Hid (MnS Tb w wr v S (rngL low j (k - j)) s)) (fun iv _ => k - (intY iv).toNat)
          case atStart => exact ⟨0, S, by omega, rfl, Or.inl rfl, HM⟩
          case round =>
            obtain ⟨j, S2, hjk, rfl, hjc, HJ⟩ := hrel
            by_cases hjl : j < k
            · have hji : (j : Int) < (k : Int) := by omega
              have hj0 : (0 : Int) ≤ (j : Int) := by omega
              by_cases hcj : (j : Int) < cut
              · obtain ⟨q, hq⟩ : ∃ q, k - j = q + 1 := ⟨k - j - 1, by omega⟩
                have HJ' : Hid (MnS Tb w wr v S2 (rngL low j (q + 1)) s) := by rw [hq] at HJ; exact HJ
                have hp := HT.out.cut (mkD low j) HJ'.out.tb (mkD_ok HLO.out j)
                rw [rngL_cut_first (by omega), rngL_get (by omega) (by omega), if_pos (by omega), Option.isSome_some] at hp
                rw [mkC low (by omega : j < 65536)] at hp
                rw [show q = k - (j + 1) by omega] at hp
                have HP := Lib.hid hp
                clear hp HJ'
                go_wp2_with fail
                refine HP.out.mono ?_
                rintro e w2 ⟨S', rfl, ht, hcg, hss⟩
                have HM2 := Lib.hid (HJ.out.chg ht hcg hss)
                clear ht hcg hss
                go_wp2
                exact ⟨⟨j + 1, S', by omega, by go_num, Or.inr (by omega), HM2⟩, by simp [intY] <;> omega⟩
              · have hcut : ∀ i : Nat, i < k → (j ≤ i ↔ cut ≤ (i : Int)) := fun i hi => by omega
                go_wp2
                clear hji hjc hcj
                go_loopw [10, 11] (fun lv iv wr => ∃ (i l : Nat), i ≤ k ∧ iv = .int .i64 (i : Int) ∧ lv = .int .i64 (l : Int) ∧ Hid (l = i - j) ∧ Hid (MnS Tb w wr v S2 (rngL low j (k - j)) s)) (fun _ iv _ => k - (intY iv).toNat)
                case atStart => exact ⟨0, 0, by omega, rfl, rfl, Lib.hid (by omega), HJ⟩
                case round =>
                  obtain ⟨i, l, hik, rfl, rfl, hli, HI⟩ := hrel
                  by_cases hil : i < k
                  · have hii : (i : Int) < (k : Int) := by omega
                    have hi0 : (0 : Int) ≤ (i : Int) := by omega
                    have hl0 : (0 : Int) ≤ (l : Int) := by omega
                    have hl6 : (l : Int) ≤ 600 := by have := hli.out; omega
                    have hp := HT.out.get (mkD low i) HI.out.tb (mkD_ok HLO.out i)
                    rw [rngL_get (by omega) (by omega)] at hp
                    rw [mkC low (by omega : i < 65536)] at hp
                    have hce := hcut i hil
                    by_cases hjy : j ≤ i
                    · have hcy : cut ≤ (i : Int) := hce.1 hjy
                      rw [if_pos (by omega), Option.isSome_some, Option.getD_some] at hp
                      have HP := Lib.hid hp
                      clear hp hce
                      go_wp2_with fail
                      refine HP.out.mono ?_
                      rintro e w2 ⟨rfl, hb⟩
                      have HM2 := Lib.hid (HI.out.later HT.out hb)
                      clear hb
                      go_wp2
                      exact ⟨⟨i + 1, l + 1, by omega, by go_num, by go_num, Lib.hid (by have := hli.out; omega), HM2⟩, by simp [intY] <;> omega⟩
                    · have hcy : ¬ cut ≤ (i : Int) := fun e => hjy (hce.2 e)
                      rw [if_neg (by omega), Option.isSome_none, Option.getD_none] at hp
                      have HP := Lib.hid hp
                      clear hp hce
                      go_wp2_with fail
                      refine HP.out.mono ?_
                      rintro e w2 ⟨rfl, hb⟩
                      have HM2 := Lib.hid (HI.out.later HT.out hb)
                      clear hb
                      go_wp2
                      exact ⟨⟨i + 1, l, by omega, by go_num, rfl, Lib.hid (by have := hli.out; omega), HM2⟩, by simp [intY] <;> omega⟩
                  · have hii : ¬ (i : Int) < (k : Int) := by omega
                    have hl0 : (0 : Int) ≤ (l : Int) := by omega
                    have hl6 : (l : Int) ≤ 600 := by have := hli.out; omega
                    have hs0 : (0 : Int) ≤ s := by have := HNK.out; omega
                    have hs6 : s ≤ 3000 := by have := HNK.out; omega
                    have h43 : 4 * (l : Int) ≤ 3 * s := by have := HNK.out; have := hli.out; omega
                    have HLN := Lib.hid fun W (hW : Below wr.heap.size wr W) => HT.out.len (HT.out.later HI.out.tb hW)
                    have HSL := Lib.hid fun W (hW : Below wr.heap.size wr W) => HT.out.slots (HT.out.later HI.out.tb hW)
                    have HRF := Lib.hid (Below.refl wr.heap.size wr)
                    rw [rngL_length, show k - j = l by have := hli.out; omega] at HLN
                    go_wp2_with (first
                      | (go_at_call 14; refine (HLN.out _ HRF.out).mono ?_; rintro e w5 ⟨rfl, hb5⟩; have HB5 := Lib.hid hb5; clear hb5)
                      | (go_at_call 15; refine (HSL.out _ HB5.out).mono ?_; rintro e w6 ⟨rfl, hb6⟩; have HB6 := Lib.hid (below_step HB5.out hb6); clear hb6)
                      | (go_at_call 19; refine (HLV.out _).mono ?_; rintro e w7 ⟨rfl, hb7⟩; have HB7 := Lib.hid (below_step HB6.out hb7); clear hb7))
                    go_ret
                    exact ⟨rfl, below_step HI.out.le HB7.out⟩
            · have hji : ¬ (j : Int) < (k : Int) := by omega
              have hcut : ∀ i : Nat, i < k → (j ≤ i ↔ cut ≤ (i : Int)) := fun i hi => by omega
              go_wp2
              clear hji hjc
              go_loopw [10, 11] (fun lv iv wr => ∃ (i l : Nat), i ≤ k ∧ iv = .int .i64 (i : Int) ∧ lv = .int .i64 (l : Int) ∧ Hid (l = i - j) ∧ Hid (MnS Tb w wr v S2 (rngL low j (k - j)) s)) (fun _ iv _ => k - (intY iv).toNat)
              case atStart => exact ⟨0, 0, by omega, rfl, rfl, Lib.hid (by omega), HJ⟩
              case round =>
                obtain ⟨i, l, hik, rfl, rfl, hli, HI⟩ := hrel
                by_cases hil : i < k
                · have hii : (i : Int) < (k : Int) := by omega
                  have hi0 : (0 : Int) ≤ (i : Int) := by omega
                  have hl0 : (0 : Int) ≤ (l : Int) := by omega
                  have hl6 : (l : Int) ≤ 600 := by have := hli.out; omega
                  have hp := HT.out.get (mkD low i) HI.out.tb (mkD_ok HLO.out i)
                  rw [rngL_get (by omega) (by omega)] at hp
                  rw [mkC low (by omega : i < 65536)] at hp
                  have hce := hcut i hil
                  by_cases hjy : j ≤ i
                  · exfalso; omega
                  · have hcy : ¬ cut ≤ (i : Int) := fun e => hjy (hce.2 e)
                    rw [if_neg (by omega), Option.isSome_none, Option.getD_none] at hp
                    have HP := Lib.hid hp
                    clear hp hce
                    go_wp2_with fail
                    refine HP.out.mono ?_
                    rintro e w2 ⟨rfl, hb⟩
                    have HM2 := Lib.hid (HI.out.later HT.out hb)
                    clear hb
                    go_wp2
                    exact ⟨⟨i + 1, l, by omega, by go_num, rfl, Lib.hid (by have := hli.out; omega), HM2⟩, by simp [intY] <;> omega⟩
                · have hii : ¬ (i : Int) < (k : Int) := by omega
                  have hl0 : (0 : Int) ≤ (l : Int) := by omega
                  have hl6 : (l : Int) ≤ 600 := by have := hli.out; omega
                  have hs0 : (0 : Int) ≤ s := by have := HNK.out; omega
                  have hs6 : s ≤ 3000 := by have := HNK.out; omega
                  have h43 : 4 * (l : Int) ≤ 3 * s := by have := HNK.out; have := hli.out; omega
                  have HLN := Lib.hid fun W (hW : Below wr.heap.size wr W) => HT.out.len (HT.out.later HI.out.tb hW)
                  have HSL := Lib.hid fun W (hW : Below wr.heap.size wr W) => HT.out.slots (HT.out.later HI.out.tb hW)
                  have HRF := Lib.hid (Below.refl wr.heap.size wr)
                  rw [rngL_length, show k - j = l by have := hli.out; omega] at HLN
                  go_wp2_with (first
                    | (go_at_call 14; refine (HLN.out _ HRF.out).mono ?_; rintro e w5 ⟨rfl, hb5⟩; have HB5 := Lib.hid hb5; clear hb5)
                    | (go_at_call 15; refine (HSL.out _ HB5.out).mono ?_; rintro e w6 ⟨rfl, hb6⟩; have HB6 := Lib.hid (below_step HB5.out hb6); clear hb6)
                    | (go_at_call 19; refine (HLV.out _).mono ?_; rintro e w7 ⟨rfl, hb7⟩; have HB7 := Lib.hid (below_step HB6.out hb7); clear hb7))
                  go_ret
                  exact ⟨rfl, below_step HI.out.le HB7.out⟩
end Go.Proofs.Ytfdmpbhgejahaaa
