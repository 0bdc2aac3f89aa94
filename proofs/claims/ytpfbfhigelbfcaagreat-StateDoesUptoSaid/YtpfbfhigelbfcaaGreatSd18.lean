/- Rows of digests that a call makes: append, read; What is wanted of digest.Row -/
import Derived.Test.YtpfbfhigelbfcaaGreatSd3
import Derived.Test.YtpfbfhigelbfcaaGreatSd6
import Derived.Great.BuildSlice
set_option linter.unusedSimpArgs false
set_option linter.unusedVariables false
namespace Go.Proofs.YtpfbfhigelbfcaaGreat
open Go.RowKit Go.Lib
/-- the cells of digests, one behind another -/
def dcells : List (List Int) → List Value
 | [] => []
 | d :: L => d.map (Value.int .u8) ++ dcells L
theorem dcells_append (L M : List (List Int)) : dcells (L ++ M) = dcells L ++ dcells M := by
 induction L with
 | nil => rfl
 | cons d L ih => simp [dcells, ih]
theorem dcells_length {L : List (List Int)} (h : ∀ d ∈ L, dok d) : (dcells L).length = L.length * 32 := by
 induction L with
 | nil => rfl
 | cons d L ih =>
   rw [dcells, List.length_append, List.length_map, (h d (by simp)).1, ih (fun x hx => h x (by simp [hx])), List.length_cons]
   omega
theorem dcells_get {L : List (List Int)} (h : ∀ d ∈ L, dok d) (j k : Nat) (hj : j < L.length) (hk : k < 32) : (dcells L)[j * 32 + k]? = some (.int .u8 ((L.getD j []).getD k 0)) := by
 induction L generalizing j with
 | nil => simp at hj
 | cons d L ih =>
   have hd := h d (by simp)
   cases j with
   | zero =>
     rw [dcells, List.getElem?_append_left (by rw [List.length_map, hd.1]; omega)]
     have : k < d.length := by rw [hd.1]; exact hk
     simp [List.getD_eq_getElem?_getD, this]
   | succ j =>
     rw [dcells, List.getElem?_append_right (by rw [List.length_map, hd.1]; omega), List.length_map, hd.1, show (j + 1) * 32 + k - 32 = j * 32 + k by omega, ih (fun x hx => h x (by simp [hx])) j (by simpa using hj)]
     simp
theorem dcells_one {L : List (List Int)} {u : Value} (h : u ∈ dcells L) : u.oneCell' = true := by
 induction L with
 | nil => simp [dcells] at h
 | cons d L ih =>
   rw [dcells] at h
   rcases List.mem_append.1 h with h | h
   ·obtain ⟨z, _, rfl⟩ := List.mem_map.1 h
    rfl
   ·exact ih h
theorem info24 : (Tryz.prog.info? 35).map (fun i => (i.zero, i.size, i.bytes)) = some (some (.agg (bcs dzero)), 32, 32) := by kernel_rfl
/-- A row of the call's own from block B on, whose first elements are these digests. -/
def Od (w : World) (B : Nat) (v : Value) (L : List (List Int)) : Prop := (∀ d ∈ L, dok d) ∧ w.ownsRow B 35 32 v L.length (dcells L)
theorem Od.nil (w : World) (B : Nat) : Od w B (.slice none 0 0) [] := ⟨by simp, World.ownsRow_nil w B _ 32⟩
theorem Od.open {w : World} {B : Nat} {v : Value} {L : List (List Int)} (h : Od w B v L) :
 ∃ p cap, v = .slice p L.length cap ∧ L.length ≤ cap ∧ cap ≤ maxLen ∧ Ds w p L.length L ∧ (p = none → cap = 0) ∧ (∀ a, p = some a → B ≤ a.block ∧ a.block < w.heap.size) := by
 have h' := h
 obtain ⟨hok, hl, h2⟩ := h
 rcases h2 with ⟨rfl, h0⟩ | ⟨g, cap, cur, rfl, hB, hg, hn, hm, hs, ht⟩
 ·exact ⟨none, 0, by rw [h0], by omega, by simp, ⟨rfl, hok, Or.inl h0⟩, fun _ => rfl, by simp⟩
 ·refine ⟨_, cap, rfl, hn, hm, ⟨rfl, hok, Or.inr ⟨g, 0, rfl, fun j k hj hk => ?_⟩⟩, by simp, fun a ha => ?_⟩
  ·have h3 := h'.2.cells (g := g) rfl (j * 32 + k) _ (dcells_get hok j k hj hk)
   rw [WideShapes.add_plain] at h3
   exact h3
  ·cases ha
   exact ⟨hB, (Array.getElem?_eq_some_iff.1 hg).1⟩
theorem Od.later {w w' : World} {B : Nat} {v : Value} {L : List (List Int)} (h : Od w B v L) (hb : Below w.heap.size w w') : Od w' B v L := by
 obtain ⟨hok, hl, h2⟩ := h
 refine ⟨hok, hl, ?_⟩
 rcases h2 with h2 | ⟨g, cap, cur, hv, hB, hg, r⟩
 ·exact Or.inl h2
 ·have hlt : g < w.heap.size := (Array.getElem?_eq_some_iff.1 hg).1
  exact Or.inr ⟨g, cap, cur, hv, hB, by rw [hb.block g hlt]; exact hg, r⟩
theorem Od.alloc {w : World} {B : Nat} {v : Value} {L : List (List Int)} (h : Od w B v L) (o : Obj) : Od (w.alloc o) B v L := h.later ((Below.refl _ _).alloc (Nat.le_refl _) _)
theorem Od.mono {w : World} {B B' : Nat} {v : Value} {L : List (List Int)} (h : Od w B v L) (hB : B' ≤ B) : Od w B' v L := by
 obtain ⟨hok, hl, h2⟩ := h
 refine ⟨hok, hl, ?_⟩
 rcases h2 with h2 | ⟨g, cap, cur, hv, hb, r⟩
 ·exact Or.inl h2
 ·exact Or.inr ⟨g, cap, cur, hv, by omega, r⟩
theorem Od.ds {w : World} {B n c : Nat} {p : Option Addr} {L : List (List Int)} (h : Od w B (.slice p n c) L) : Ds w p n L := by
 obtain ⟨p', c', hv, _, _, h3, _⟩ := h.open
 simp only [Value.slice.injEq] at hv
 obtain ⟨rfl, rfl, rfl⟩ := hv
 exact h3
theorem Od.len {w : World} {B n c : Nat} {p : Option Addr} {L : List (List Int)} (h : Od w B (.slice p n c) L) : L.length = n := h.ds.1
theorem Od.ptr {w : World} {B n cap : Nat} {p : Option Addr} {L : List (List Int)} (h : Od w B (.slice p n cap) L) (hn : 0 < n) : ∃ g, p = some ⟨g, 0, none⟩ := by
 rcases h.2.2 with ⟨hv, h0⟩ | ⟨g, cap', cur, hv, _⟩
 ·simp only [Value.slice.injEq] at hv; omega
 ·simp only [Value.slice.injEq] at hv; exact ⟨g, hv.1⟩
theorem below_new_od {B : Nat} {a w w' : World} {v : Value} {L : List (List Int)} (hb : Below B a w) (ho : Od w B v L) (h : w.grownBy w' v.ownBlock) (hB : B ≤ w.heap.size) : Below B a w' :=
 hb.grown h hB (fun j hj => (ho.2.lt j hj).1)
theorem Od.one (w : World) (B : Nat) (d : List Int) (hd : dok d) (hB : B ≤ w.heap.size) : Od (w.alloc (.cells (bcs d) 35)) B (.slice (some ⟨w.heap.size, 0, none⟩) 1 1) [d] := by
 refine ⟨by simpa using hd, ?_⟩
 have hs : (bcs d).size = 1 * 32 := by rw [bcs_size, hd.1]
 have h := World.ownsRow_lit (base := B) (e := 35) (size := 32) w (bcs d) 1 hB (by unfold maxLen; omega) hs
 have e : dcells [d] = (bcs d).toList := by simp [dcells, bcs]
 rw [e]
 exact h
variable {P : Program}
/-- 'append(s, x...)', s of the call's own, x any digests: at one operation. -/
theorem wp_append_digs {w : World} {o : Oper} {a : Act} {K : Act → World → Prop} {Q : Exit → Act → World → Prop} (s x : Operand) (t : TypeId)
 (ho : o.op = .call { callee := .builtin .append, args := #[s, x], argTypes := #[t, t] }) (ht : P.underlying t = some (.slice 35))
 (hinfo : (P.info? 35).map (fun i => (i.zero, i.size, i.bytes)) = some (some (.agg (bcs dzero)), 32, 32))
 (B : Nat) (v : Value) (L : List (List Int)) (hs : a.eval s = v) (hob : Od w B v L) (p : Option Addr) (m c : Nat) (M : List (List Int)) (hx : a.eval x = .slice p m c) (hbs : Ds w p m M) (hpc : p = none → c = 0)
 (hbytes : (L.length + m) * 32 ≤ 140737488355328) (hB : B ≤ w.heap.size)
 (h : ∀ v' w', Od w' B v' (L ++ M) → w.grownBy w' v.ownBlock → K (a.put o.dst v') w') : o.wp P a w K Q := by
 obtain ⟨i, hi, hzz⟩ := Option.map_eq_some_iff.1 hinfo
 simp only [Prod.mk.injEq] at hzz
 obtain ⟨hz, hsz, hb⟩ := hzz
 obtain ⟨hy1, hy2, hy3⟩ := hbs
 cases p with
 | none =>
   obtain rfl := hpc rfl
   have hm : m = 0 := by
    rcases hy3 with h0 | ⟨_, _, hh, _⟩
    ·exact h0
    ·cases hh
   subst hm
   obtain rfl : M = [] := List.length_eq_zero_iff.1 hy1
   have hrun := run_append_owned_none (P := P) (w := w) B t o.type 35 i 32 ht hi v _ _ hob.2
   unfold Oper.wp
   simp [execOp, ho, resolve, invoke, builtin, hs, hx, hrun, Result.andThen]
   exact h _ _ (by rw [List.append_nil]; exact hob) ⟨rfl, rfl, rfl, Nat.le_refl _, fun _ _ _ => rfl⟩
 | some ad =>
   refine wp_append_own _ s x t ho B 35 i (.agg (bcs dzero)) 32 32 ht hi hz hsz hb rfl (by decide) v _ _ hs hob.2 ad m c (dcells M) hx (by rw [dcells_length hy2, hy1]) ?_ (fun u hu => dcells_one hu) (by unfold maxLen; omega) hbytes hB ?_
   ·intro j u hu
    have hj : j < m * 32 := by
     have := (List.getElem?_eq_some_iff.1 hu).1
     rw [dcells_length hy2, hy1] at this
     exact this
    rcases hy3 with h0 | ⟨b, off, hp, hc⟩
    ·omega
    ·obtain rfl : ad = ⟨b, off, none⟩ := by simpa using hp
     have h1 := dcells_get hy2 (j / 32) (j % 32) (by omega) (by omega)
     rw [show j / 32 * 32 + j % 32 = j by omega, hu] at h1
     rw [WideShapes.add_plain]
     have h2 := hc (j / 32) (j % 32) (by omega) (by omega)
     rw [show j / 32 * 32 + j % 32 = j by omega] at h2
     rw [h2, ← h1]
   ·intro v' w' h1 h2 _
    refine h v' w' ⟨fun d hd => ?_, ?_⟩ h2
    ·rcases List.mem_append.1 hd with hd | hd
     ·exact hob.1 d hd
     ·exact hy2 d hd
    ·rw [List.length_append, hy1, dcells_append]
     exact h1
theorem wpList_append_digs {w : World} {ops : Array Oper} {rest : List Oper} {o : Oper} {a : Act} {Q : Exit → Act → World → Prop} (hgd : o.guard = none) (s x : Operand) (t : TypeId)
 (ho : o.op = .call { callee := .builtin .append, args := #[s, x], argTypes := #[t, t] }) (ht : P.underlying t = some (.slice 35))
 (hinfo : (P.info? 35).map (fun i => (i.zero, i.size, i.bytes)) = some (some (.agg (bcs dzero)), 32, 32))
 (B : Nat) (v : Value) (L : List (List Int)) (hs : a.eval s = v) (hob : Od w B v L) (p : Option Addr) (m c : Nat) (M : List (List Int)) (hx : a.eval x = .slice p m c) (hbs : Ds w p m M) (hpc : p = none → c = 0)
 (hbytes : (L.length + m) * 32 ≤ 140737488355328) (hB : B ≤ w.heap.size)
 (h : ∀ v' w', Od w' B v' (L ++ M) → w.grownBy w' v.ownBlock → wpList P ops Q rest (a.put o.dst v') w') : wpList P ops Q (o :: rest) a w :=
 wpList_plain hgd fun _ hK => wp_append_digs s x t ho ht hinfo B v L hs hob p m c M hx hbs hpc hbytes hB fun v' w' h1 h2 => hK _ _ (h v' w' h1 h2)
/-- '[]Digest{x}': one digest laid anew. -/
theorem wp_build_dig {o : Oper} {a : Act} {w : World} {K : Act → World → Prop} {Q : Exit → Act → World → Prop} (t : TypeId) (x : Nat) (ho : o.op = .buildSlice t 1 #[(0, .tmp x)])
 (hu : P.underlying t = some (.slice 35)) (hinfo : (P.info? 35).map (fun i => (i.zero, i.size, i.bytes)) = some (some (.agg (bcs dzero)), 32, 32))
 (d : List Int) (hd : d.length = 32) (hx : a.eval (.tmp x) = .agg (bcs d))
 (h : K (a.put o.dst (.slice (some ⟨w.heap.size, 0, none⟩) 1 1)) (w.alloc (.cells (bcs d) 35))) : o.wp P a w K Q := by
 obtain ⟨i, hi, hzz⟩ := Option.map_eq_some_iff.1 hinfo
 simp only [Prod.mk.injEq] at hzz
 obtain ⟨hz, hsz, hb⟩ := hzz
 refine wp_buildSlice t 35 1 _ ho (bcs d) i _ hu hi hz (by rw [hsz]; decide) (by rw [hsz]; decide) ?_ h
 rw [hsz]
 have hf := Great.fill_whole (s := 32) (by decide) [.agg (bcs d)] ((Array.range (1 * 32)).map ((Value.agg (bcs dzero)).cells[· % (Value.agg (bcs dzero)).cells.size]!)) (by
  intro v hv
  rw [List.mem_singleton] at hv
  subst hv
  show (bcs d).size = 32
  rw [bcs_size, hd]) (by simp)
 have e : (#[(0, Operand.tmp x)].map fun (p : Nat × Operand) => (p.1, a.eval p.2)).toList = [((0 : Nat), Value.agg (bcs d))] := by
  simp [hx]
 rw [e]
 refine (Eq.trans ?_ hf).trans ?_
 ·rfl
 ·simp [Value.cells]
theorem wpList_build_dig {ops : Array Oper} {rest : List Oper} {o : Oper} {a : Act} {w : World} {Q : Exit → Act → World → Prop} (hg : o.guard = none) (t : TypeId) (x : Nat) (ho : o.op = .buildSlice t 1 #[(0, .tmp x)])
 (hu : P.underlying t = some (.slice 35)) (hinfo : (P.info? 35).map (fun i => (i.zero, i.size, i.bytes)) = some (some (.agg (bcs dzero)), 32, 32))
 (d : List Int) (hd : d.length = 32) (hx : a.eval (.tmp x) = .agg (bcs d))
 (h : wpList P ops Q rest (a.put o.dst (.slice (some ⟨w.heap.size, 0, none⟩) 1 1)) (w.alloc (.cells (bcs d) 35))) : wpList P ops Q (o :: rest) a w :=
 wpList_plain hg fun _ hK => wp_build_dig t x ho hu hinfo d hd hx (hK _ _ h)
def RowOk : Prop := ∀ (p : Option Addr) (n cap : Nat) (L : List (List Int)) (w : World), Ds w p n L → (p = none → cap = 0) → n ≤ cap → cap ≤ maxLen → n ≤ 1048576 → Calls Tryz.prog 116 #[.slice p n cap] w fun e w' => ∃ v, e = .returned v ∧ Od w' w.heap.size v (drow L) ∧ Below w.heap.size w w'
end Go.Proofs.YtpfbfhigelbfcaaGreat

