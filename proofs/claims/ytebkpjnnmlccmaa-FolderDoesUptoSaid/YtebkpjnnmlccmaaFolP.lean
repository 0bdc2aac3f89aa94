/- Layer 11: a folder's names on plain lists. -/
import Derived.Test.YtebkpjnnmlccmaaStr
namespace Go.Proofs.Ytebkpjnnmlccmaa
set_option linter.unusedVariables false

structure Nd where
  s : ByteArray
  id : Int
structure Cg where
  k : Int
  a : ByteArray
  b : ByteArray
  id : Int
structure Fd where
  l : List Nd
  p : List Cg
def nd0 : Nd := ⟨⟨#[]⟩, 0⟩
def cg0 : Cg := ⟨0, ⟨#[]⟩, ⟨#[]⟩, 0⟩

/-! ### the order of names, as a walk spells it -/
theorem ba_ext {a b : ByteArray} (h : a.toList = b.toList) : a = b := by
  rw [bytes_toList, bytes_toList] at h
  exact ByteArray.ext (Array.toList_inj.1 h)
theorem sq_iff {a b : ByteArray} : (a.toList == b.toList) = true ↔ a = b := by
  rw [beq_iff_eq]
  exact ⟨ba_ext, fun h => by rw [h]⟩
theorem sq_true {a b : ByteArray} (h : a = b) : (a.toList == b.toList) = true := sq_iff.2 h
theorem sq_false {a b : ByteArray} (h : a ≠ b) : (a.toList == b.toList) = false := by
  cases e : (a.toList == b.toList)
  · rfl
  · exact absurd (sq_iff.1 e) h
theorem less_iff : ∀ (x y : List UInt8), Op.bytesLess x y = true ↔ x < y
  | [], [] => by simp [Op.bytesLess]
  | _ :: _, [] => by simp [Op.bytesLess]
  | [], _ :: _ => by simp [Op.bytesLess]
  | a :: x, b :: y => by
    rw [Op.bytesLess, List.cons_lt_cons_iff, Bool.or_eq_true, Bool.and_eq_true, beq_iff_eq, less_iff x y, decide_eq_true_iff]
/-- a name before another one -/
def slt (a b : ByteArray) : Prop := a.toList < b.toList
theorem slt_irrefl (a : ByteArray) : ¬ slt a a := List.lt_irrefl _
theorem slt_trans {a b c : ByteArray} (h1 : slt a b) (h2 : slt b c) : slt a c := List.lt_trans h1 h2
theorem slt_asymm {a b : ByteArray} (h1 : slt a b) (h2 : slt b a) : False := slt_irrefl _ (slt_trans h1 h2)
theorem slt_ne {a b : ByteArray} (h1 : slt a b) : a ≠ b := fun e => by subst e; exact slt_irrefl _ h1
theorem slt_total {a b : ByteArray} (h1 : ¬ slt a b) (h2 : a ≠ b) : slt b a := by
  have h3 : b.toList ≤ a.toList := List.not_lt.1 h1
  apply Classical.byContradiction
  intro h4
  have h5 : a.toList ≤ b.toList := List.not_lt.1 h4
  exact h2 (ba_ext (List.le_antisymm h5 h3))
/-- 'a > b' -/
def sgt (a b : ByteArray) : Bool := !(Op.bytesLess a.toList b.toList || a.toList == b.toList)
theorem sgt_iff {a b : ByteArray} : sgt a b = true ↔ slt b a := by
  unfold sgt
  rw [Bool.not_eq_true', Bool.or_eq_false_iff]
  constructor
  · rintro ⟨h1, h2⟩
    refine slt_total (fun h => ?_) (fun h => ?_)
    · rw [(less_iff _ _).2 h] at h1; cases h1
    · rw [sq_true h] at h2; cases h2
  · intro h
    refine ⟨?_, sq_false fun e => slt_ne h e.symm⟩
    cases e : Op.bytesLess a.toList b.toList
    · rfl
    · exact absurd ((less_iff _ _).1 e) fun h' => slt_asymm h h'

/-! ### rows of names -/
def findP : List Nd → ByteArray → Option Int
  | [], _ => none
  | x :: l, s => if x.s = s then some x.id else findP l s
def rises (l : List Nd) : Prop := l.Pairwise fun x y => slt x.s y.s
/-- x and what is still to come, x being there already or not -/
def putR (x : Nd) : List Nd → Bool → List Nd
  | [], t => if t then [] else [x]
  | y :: l, t => (if t = false ∧ sgt y.s x.s = true then [x] else []) ++ ((if y.s = x.s then [] else [y]) ++ putR x l (t || sgt y.s x.s))
def putP (l : List Nd) (x : Nd) : List Nd := putR x l false
def outP (l : List Nd) (s : ByteArray) : List Nd := l.filter fun y => decide (y.s ≠ s)
def chgP (l : List Nd) (c : Cg) : List Nd :=
  if c.k = 1 then putP l ⟨c.a, c.id⟩
  else if c.k = 2 then (match findP l c.a with | some i => putP (outP l c.a) ⟨c.b, i⟩ | none => l)
  else if c.k = 3 then outP l c.a else l
def baseP (l : List Nd) : List Nd := l.foldr (fun x r => putP r x) []
/-- the names behind so many changes -/
def behP (F : Fd) (n : Nat) : List Nd := (F.p.take n).foldl chgP (baseP F.l)
def nowP (F : Fd) : List Nd := behP F F.p.length
def syncP (F : Fd) : Fd := ⟨nowP F, []⟩
def crashP (F : Fd) (n : Nat) : Fd := ⟨behP F n, []⟩

/-- as a function of the name -/
def chgF (f : ByteArray → Option Int) (c : Cg) : ByteArray → Option Int := fun s =>
  if c.k = 1 then (if s = c.a then some c.id else f s)
  else match f c.a with
    | none => f s
    | some i => if c.k = 2 then (if s = c.b then some i else if s = c.a then none else f s) else if c.k = 3 then (if s = c.a then none else f s) else f s
def aftF (F : Fd) (n : Nat) : ByteArray → Option Int := (F.p.take n).foldl chgF (findP F.l)

theorem putR_length (x : Nd) : ∀ l t, (putR x l t).length ≤ l.length + (if t then 0 else 1)
  | [], t => by cases t <;> simp [putR]
  | y :: l, t => by
    have h := putR_length x l (t || sgt y.s x.s)
    simp only [putR, List.length_append, List.length_cons]
    generalize sgt y.s x.s = g at *
    generalize putR x l (t || g) = r at *
    by_cases e : y.s = x.s
    · rw [if_pos e]; cases t <;> cases g <;> simp at h ⊢ <;> omega
    · rw [if_neg e]; cases t <;> cases g <;> simp at h ⊢ <;> omega
theorem putP_length (l : List Nd) (x : Nd) : (putP l x).length ≤ l.length + 1 := putR_length x l false
theorem outP_length (l : List Nd) (s : ByteArray) : (outP l s).length ≤ l.length := List.length_filter_le _ _
theorem chgP_length (l : List Nd) (c : Cg) : (chgP l c).length ≤ l.length + 1 := by
  unfold chgP
  split
  · exact putP_length _ _
  · split
    · split
      · exact Nat.le_trans (putP_length _ _) (Nat.succ_le_succ (outP_length _ _))
      · omega
    · split
      · exact Nat.le_trans (outP_length _ _) (Nat.le_succ _)
      · omega
theorem baseP_length (l : List Nd) : (baseP l).length ≤ l.length := by
  induction l with
  | nil => exact Nat.le_refl _
  | cons x l ih => exact Nat.le_trans (putP_length _ _) (Nat.succ_le_succ ih)
theorem foldP_length (p : List Cg) (l : List Nd) : (p.foldl chgP l).length ≤ l.length + p.length := by
  induction p generalizing l with
  | nil => exact Nat.le_refl _
  | cons c p ih =>
    have h1 := ih (chgP l c)
    have h2 := chgP_length l c
    simp only [List.foldl_cons, List.length_cons]; omega
theorem behP_length (F : Fd) (n : Nat) : (behP F n).length ≤ F.l.length + F.p.length := by
  have h1 := foldP_length (F.p.take n) (baseP F.l)
  have h2 := baseP_length F.l
  have h3 : (F.p.take n).length ≤ F.p.length := by rw [List.length_take]; omega
  unfold behP; omega

theorem mem_putR (x : Nd) : ∀ l t y, y ∈ putR x l t ↔ (t = false ∧ y = x) ∨ (y ∈ l ∧ y.s ≠ x.s)
  | [], t, y => by cases t <;> simp [putR]
  | z :: l, t, y => by
    have ih := mem_putR x l (t || sgt z.s x.s) y
    have hg : sgt z.s x.s = true → z.s ≠ x.s := fun h e => slt_ne (sgt_iff.1 h) e.symm
    simp only [putR, List.mem_append, ih, List.mem_cons]
    generalize sgt z.s x.s = g at *
    by_cases e : z.s = x.s
    · rw [if_pos e]
      cases g <;> cases t <;> grind
    · rw [if_neg e]
      cases g <;> cases t <;> grind
theorem mem_putP {l : List Nd} {x y : Nd} : y ∈ putP l x ↔ y = x ∨ (y ∈ l ∧ y.s ≠ x.s) := by rw [putP, mem_putR]; simp
theorem mem_outP {l : List Nd} {s : ByteArray} {y : Nd} : y ∈ outP l s ↔ y ∈ l ∧ y.s ≠ s := by rw [outP, List.mem_filter, decide_eq_true_iff]

theorem putR_rises (x : Nd) : ∀ l t, rises l → (t = true → ∀ y ∈ l, slt x.s y.s) → rises (putR x l t)
  | [], t, _, _ => by
    cases t
    · exact List.pairwise_singleton _ _
    · exact List.Pairwise.nil
  | z :: l, t, hl, ht => by
    obtain ⟨h1, h2⟩ := List.pairwise_cons.1 hl
    cases t
    · cases hg : sgt z.s x.s
      · have hn : ¬ slt x.s z.s := fun h => by rw [sgt_iff.2 h] at hg; cases hg
        have ih := putR_rises x l false h2 (fun h => by cases h)
        simp only [putR, hg, if_neg (show ¬ (false = false ∧ false = true) by simp), List.nil_append, Bool.or_false]
        by_cases e : z.s = x.s
        · rw [if_pos e]; exact ih
        · rw [if_neg e]
          refine List.pairwise_cons.2 ⟨fun y hy => ?_, ih⟩
          rcases (mem_putR x l false y).1 hy with ⟨_, rfl⟩ | ⟨hy, _⟩
          · exact slt_total hn (fun h => e h.symm)
          · exact h1 y hy
      · have hx := sgt_iff.1 hg
        have ih := putR_rises x l true h2 (fun _ y hy => slt_trans hx (h1 y hy))
        simp only [putR, hg, if_pos (show (false = false ∧ true = true) by simp), Bool.or_true, if_neg (show ¬ z.s = x.s from fun h => slt_ne hx h.symm)]
        refine List.pairwise_cons.2 ⟨fun y hy => ?_, List.pairwise_cons.2 ⟨fun y hy => ?_, ih⟩⟩
        · rcases List.mem_cons.1 hy with rfl | hy
          · exact hx
          · rcases (mem_putR x l true y).1 hy with ⟨h, _⟩ | ⟨hy, _⟩
            · cases h
            · exact slt_trans hx (h1 y hy)
        · rcases (mem_putR x l true y).1 hy with ⟨h, _⟩ | ⟨hy, _⟩
          · cases h
          · exact h1 y hy
    · have hx := ht rfl z (List.mem_cons_self)
      have ih := putR_rises x l true h2 (fun _ y hy => ht rfl y (List.mem_cons_of_mem _ hy))
      simp only [putR, if_neg (show ¬ (true = false ∧ sgt z.s x.s = true) by simp), List.nil_append, Bool.true_or, if_neg (show ¬ z.s = x.s from fun h => slt_ne hx h.symm)]
      refine List.pairwise_cons.2 ⟨fun y hy => ?_, ih⟩
      rcases (mem_putR x l true y).1 hy with ⟨h, _⟩ | ⟨hy, _⟩
      · cases h
      · exact h1 y hy
theorem putP_rises {l : List Nd} (h : rises l) (x : Nd) : rises (putP l x) := putR_rises x l false h (fun h => by cases h)
theorem outP_rises {l : List Nd} (h : rises l) (s : ByteArray) : rises (outP l s) := List.Pairwise.filter _ h

theorem find_mem {l : List Nd} (h : rises l) (s : ByteArray) (i : Int) : findP l s = some i ↔ (⟨s, i⟩ : Nd) ∈ l := by
  induction l with
  | nil => simp [findP]
  | cons x l ih =>
    obtain ⟨h1, h2⟩ := List.pairwise_cons.1 h
    rw [findP, List.mem_cons]
    by_cases e : x.s = s
    · rw [if_pos e]
      constructor
      · intro hi
        simp only [Option.some.injEq] at hi
        left; subst e hi; rfl
      · rintro (hx | hx)
        · rw [← hx]
        · have := h1 _ hx
          exact absurd e (slt_ne this)
    · rw [if_neg e, ih h2]
      constructor
      · exact Or.inr
      · rintro (hx | hx)
        · exact absurd (by rw [← hx]) e
        · exact hx
theorem opt_ext {a b : Option Int} (h : ∀ i, a = some i ↔ b = some i) : a = b := by
  cases a with
  | none => cases b with
    | none => rfl
    | some j => have := (h j).2 rfl; cases this
  | some j => exact ((h j).1 rfl).symm
theorem find_putP {l : List Nd} (h : rises l) (x : Nd) (s : ByteArray) : findP (putP l x) s = if s = x.s then some x.id else findP l s := by
  apply opt_ext
  intro i
  rw [find_mem (putP_rises h x), mem_putP]
  by_cases e : s = x.s
  · rw [if_pos e]
    subst e
    constructor
    · rintro (hx | ⟨_, hx⟩)
      · rw [← hx]
      · exact absurd rfl hx
    · intro hi
      simp only [Option.some.injEq] at hi
      left; subst hi; rfl
  · rw [if_neg e, find_mem h]
    constructor
    · rintro (hx | ⟨hx, _⟩)
      · exact absurd (by rw [← hx]) e
      · exact hx
    · exact fun hx => Or.inr ⟨hx, e⟩
theorem find_outP {l : List Nd} (h : rises l) (s t : ByteArray) : findP (outP l s) t = if t = s then none else findP l t := by
  apply opt_ext
  intro i
  rw [find_mem (outP_rises h s), mem_outP]
  by_cases e : t = s
  · rw [if_pos e]
    exact ⟨fun hx => absurd e hx.2, fun hx => by cases hx⟩
  · rw [if_neg e, find_mem h]
    exact ⟨fun hx => hx.1, fun hx => ⟨hx, e⟩⟩
/-- two rows that rise and hold the same are one -/
theorem rises_ext {l m : List Nd} (hl : rises l) (hm : rises m) (h : ∀ s i, findP l s = some i ↔ findP m s = some i) : l = m := by
  have hmem : ∀ x : Nd, x ∈ l ↔ x ∈ m := fun x => by rw [← find_mem hl x.s x.id, ← find_mem hm x.s x.id]; exact h _ _
  clear h
  induction l generalizing m with
  | nil => cases m with
    | nil => rfl
    | cons y m => have := (hmem y).2 List.mem_cons_self; cases this
  | cons x l ih => cases m with
    | nil => have := (hmem x).1 List.mem_cons_self; cases this
    | cons y m =>
      obtain ⟨a1, a2⟩ := List.pairwise_cons.1 hl
      obtain ⟨b1, b2⟩ := List.pairwise_cons.1 hm
      have hxy : x = y := by
        rcases List.mem_cons.1 ((hmem x).1 List.mem_cons_self) with e | hx
        · exact e
        · rcases List.mem_cons.1 ((hmem y).2 List.mem_cons_self) with e | hy
          · exact e.symm
          · exact absurd (b1 x hx) (fun h => slt_asymm h (a1 y hy))
      subst hxy
      congr 1
      refine ih a2 b2 fun z => ⟨fun hz => ?_, fun hz => ?_⟩
      · rcases List.mem_cons.1 ((hmem z).1 (List.mem_cons_of_mem _ hz)) with e | h
        · subst e; exact absurd (a1 _ hz) (slt_irrefl _)
        · exact h
      · rcases List.mem_cons.1 ((hmem z).2 (List.mem_cons_of_mem _ hz)) with e | h
        · subst e; exact absurd (b1 _ hz) (slt_irrefl _)
        · exact h

theorem chg_both {l : List Nd} (h : rises l) (c : Cg) : rises (chgP l c) ∧ findP (chgP l c) = chgF (findP l) c := by
  unfold chgP chgF
  by_cases h1 : c.k = 1
  · refine ⟨by rw [if_pos h1]; exact putP_rises h _, funext fun s => ?_⟩
    rw [if_pos h1, if_pos h1, find_putP h]
  by_cases h2 : c.k = 2
  · cases hf : findP l c.a with
    | none => exact ⟨by rw [if_neg h1, if_pos h2]; exact h, funext fun s => by rw [if_neg h1, if_pos h2, if_neg h1]⟩
    | some i =>
      refine ⟨by rw [if_neg h1, if_pos h2]; exact putP_rises (outP_rises h _) _, funext fun s => ?_⟩
      rw [if_neg h1, if_pos h2, if_neg h1]
      dsimp only
      rw [if_pos h2, find_putP (outP_rises h _), find_outP h]
  by_cases h3 : c.k = 3
  · refine ⟨by rw [if_neg h1, if_neg h2, if_pos h3]; exact outP_rises h _, funext fun s => ?_⟩
    rw [if_neg h1, if_neg h2, if_pos h3, if_neg h1, find_outP h]
    cases hf : findP l c.a with
    | none =>
      by_cases e : s = c.a
      · rw [if_pos e, e, hf]
      · rw [if_neg e]
    | some i =>
      dsimp only
      rw [if_neg h2, if_pos h3]
  · refine ⟨by rw [if_neg h1, if_neg h2, if_neg h3]; exact h, funext fun s => ?_⟩
    rw [if_neg h1, if_neg h2, if_neg h3, if_neg h1]
    cases hf : findP l c.a with
    | none => rfl
    | some i =>
      dsimp only
      rw [if_neg h2, if_neg h3]
theorem base_both (l : List Nd) : rises (baseP l) ∧ findP (baseP l) = findP l := by
  induction l with
  | nil => exact ⟨List.Pairwise.nil, rfl⟩
  | cons x l ih =>
    refine ⟨putP_rises ih.1 x, funext fun s => ?_⟩
    show findP (putP (baseP l) x) s = _
    rw [find_putP ih.1, ih.2, findP]
    by_cases e : s = x.s
    · rw [if_pos e, if_pos e.symm]
    · rw [if_neg e, if_neg (fun h => e h.symm)]
theorem fold_both (p : List Cg) {l : List Nd} (h : rises l) : rises (p.foldl chgP l) ∧ findP (p.foldl chgP l) = p.foldl chgF (findP l) := by
  induction p generalizing l with
  | nil => exact ⟨h, rfl⟩
  | cons c p ih =>
    obtain ⟨h1, h2⟩ := chg_both h c
    have := ih h1
    rw [h2] at this
    exact this
theorem beh_both (F : Fd) (n : Nat) : rises (behP F n) ∧ findP (behP F n) = aftF F n := by
  have := fold_both (F.p.take n) (base_both F.l).1
  rw [(base_both F.l).2] at this
  exact this
theorem baseP_self {l : List Nd} (h : rises l) : baseP l = l :=
  rises_ext (base_both l).1 h fun s i => by rw [(base_both l).2]
theorem behP_none (l : List Nd) (n : Nat) (h : rises l) : behP ⟨l, []⟩ n = l := by
  unfold behP
  rw [show (⟨l, []⟩ : Fd).p.take n = [] from List.take_nil]
  exact baseP_self h
theorem behP_now (F : Fd) (n : Nat) (m : Nat) : behP (syncP F) m = nowP F := behP_none _ _ (beh_both _ _).1
theorem behP_all {F : Fd} {n : Nat} (h : F.p.length ≤ n) : behP F n = nowP F := by
  unfold nowP behP
  rw [List.take_of_length_le h, List.take_of_length_le (Nat.le_refl _)]
theorem behP_step {F : Fd} {n : Nat} (h : n < F.p.length) : behP F (n + 1) = chgP (behP F n) (F.p.getD n cg0) := by
  unfold behP
  rw [List.take_succ_eq_append_getElem h, List.foldl_append, List.getD_eq_getElem?_getD, List.getElem?_eq_getElem h]
  rfl
theorem aftF_step {F : Fd} {n : Nat} (h : n < F.p.length) : aftF F (n + 1) = chgF (aftF F n) (F.p.getD n cg0) := by
  unfold aftF
  rw [List.take_succ_eq_append_getElem h, List.foldl_append, List.getD_eq_getElem?_getD, List.getElem?_eq_getElem h]
  rfl

/-! ### what is fit -/
def InI (n : Int) : Prop := -9223372036854775808 ≤ n ∧ n ≤ 9223372036854775807
def Nd.ok (x : Nd) : Prop := x.s.size ≤ 1048576 ∧ InI x.id
def Cg.ok (c : Cg) : Prop := InI c.k ∧ c.a.size ≤ 1048576 ∧ c.b.size ≤ 1048576 ∧ InI c.id
def Fd.ok (F : Fd) : Prop := (∀ x ∈ F.l, x.ok) ∧ (∀ c ∈ F.p, c.ok) ∧ F.l.length + F.p.length ≤ 1048576
def okF (f : ByteArray → Option Int) : Prop := ∀ s i, f s = some i → s.size ≤ 1048576 ∧ InI i
theorem nd0_ok : nd0.ok := ⟨by decide, by unfold InI nd0; decide⟩
theorem cg0_ok : cg0.ok := ⟨by unfold InI cg0; decide, by decide, by decide, by unfold InI cg0; decide⟩
theorem okF_find {l : List Nd} (h : ∀ x ∈ l, x.ok) : okF (findP l) := by
  induction l with
  | nil => intro s i h; cases h
  | cons x l ih =>
    intro s i hi
    rw [findP] at hi
    by_cases e : x.s = s
    · rw [if_pos e] at hi
      simp only [Option.some.injEq] at hi
      subst e hi
      exact h x List.mem_cons_self
    · rw [if_neg e] at hi
      exact ih (fun y hy => h y (List.mem_cons_of_mem _ hy)) s i hi
theorem okF_chg {f : ByteArray → Option Int} (h : okF f) {c : Cg} (hc : c.ok) : okF (chgF f c) := by
  intro s i hi
  unfold chgF at hi
  split at hi
  · split at hi
    · rename_i e
      simp only [Option.some.injEq] at hi
      subst e hi
      exact ⟨hc.2.1, hc.2.2.2⟩
    · exact h s i hi
  · split at hi
    · exact h s i hi
    · rename_i j hj
      split at hi
      · split at hi
        · rename_i e
          simp only [Option.some.injEq] at hi
          subst e hi
          exact ⟨hc.2.2.1, (h _ _ hj).2⟩
        · split at hi
          · cases hi
          · exact h s i hi
      · split at hi
        · split at hi
          · cases hi
          · exact h s i hi
        · exact h s i hi
theorem okF_fold {p : List Cg} (hp : ∀ c ∈ p, c.ok) {f : ByteArray → Option Int} (h : okF f) : okF (p.foldl chgF f) := by
  induction p generalizing f with
  | nil => exact h
  | cons c p ih => exact ih (fun d hd => hp d (List.mem_cons_of_mem _ hd)) (okF_chg h (hp c List.mem_cons_self))
theorem okF_aft {F : Fd} (h : F.ok) (n : Nat) : okF (aftF F n) := okF_fold (fun c hc => h.2.1 c (List.mem_of_mem_take hc)) (okF_find h.1)
theorem ok_of_find {l : List Nd} (hr : rises l) (h : okF (findP l)) : ∀ x ∈ l, x.ok := fun x hx => h x.s x.id ((find_mem hr _ _).2 hx)
theorem behP_ok {F : Fd} (h : F.ok) (n : Nat) : ∀ x ∈ behP F n, x.ok := ok_of_find (beh_both F n).1 (by rw [(beh_both F n).2]; exact okF_aft h n)

/-! ### numbers of files -/
def irises (l : List Int) : Prop := l.Pairwise (· < ·)
def putIR (n : Int) : List Int → Bool → List Int
  | [], t => if t then [] else [n]
  | y :: l, t => (if t = false ∧ n ≤ y ∧ n < y then [n] else []) ++ (y :: putIR n l (t || decide (n ≤ y)))
def putI (l : List Int) (n : Int) : List Int := putIR n l false
def idsF (F : Fd) (n : Nat) (o : List Int) : List Int := (behP F n).foldl (fun o x => putI o x.id) o
def idsN (F : Fd) : Nat → List Int
  | 0 => []
  | n + 1 => idsF F n (idsN F n)
def idsP (F : Fd) : List Int := idsN F (F.p.length + 1)
theorem putIR_length (n : Int) : ∀ l t, (putIR n l t).length ≤ l.length + (if t then 0 else 1)
  | [], t => by cases t <;> simp [putIR]
  | y :: l, t => by
    have h := putIR_length n l (t || decide (n ≤ y))
    simp only [putIR, List.length_append, List.length_cons]
    cases t
    · by_cases h1 : n ≤ y <;> by_cases h2 : n < y <;> simp [h1, h2] at h ⊢ <;> omega
    · simp at h ⊢; omega
theorem mem_putIR (n : Int) : ∀ l t y, y ∈ putIR n l t ↔ (t = false ∧ y = n) ∨ y ∈ l
  | [], t, y => by cases t <;> simp [putIR]
  | z :: l, t, y => by
    have ih := mem_putIR n l (t || decide (n ≤ z)) y
    simp only [putIR, List.mem_append, List.mem_cons, ih]
    by_cases h1 : n ≤ z
    · by_cases h2 : n < z
      · cases t <;> simp [h1, h2] <;> grind
      · have : n = z := by omega
        subst this
        cases t <;> simp <;> grind
    · cases t <;> simp [h1] <;> grind
theorem mem_putI {l : List Int} {n y : Int} : y ∈ putI l n ↔ y = n ∨ y ∈ l := by rw [putI, mem_putIR]; simp
theorem putIR_rises (n : Int) : ∀ l t, irises l → (t = true → ∀ y ∈ l, n < y) → irises (putIR n l t)
  | [], t, _, _ => by
    cases t
    · exact List.pairwise_singleton _ _
    · exact List.Pairwise.nil
  | z :: l, t, hl, ht => by
    obtain ⟨h1, h2⟩ := List.pairwise_cons.1 hl
    cases t
    · by_cases h3 : n ≤ z
      · have ih := putIR_rises n l true h2 (fun _ y hy => by have := h1 y hy; omega)
        have hz : irises (z :: putIR n l true) := List.pairwise_cons.2 ⟨fun y hy => by
          rcases (mem_putIR n l true y).1 hy with ⟨h, _⟩ | hy
          · cases h
          · exact h1 y hy, ih⟩
        simp only [putIR, Bool.false_or, decide_eq_true h3]
        by_cases h4 : n < z
        · rw [if_pos (by simp [h3, h4])]
          refine List.pairwise_cons.2 ⟨fun y hy => ?_, hz⟩
          rcases List.mem_cons.1 hy with rfl | hy
          · exact h4
          · rcases (mem_putIR n l true y).1 hy with ⟨h, _⟩ | hy
            · cases h
            · have := h1 y hy; omega
        · rw [if_neg (fun h => h4 h.2.2)]; exact hz
      · have ih := putIR_rises n l false h2 (fun h => by cases h)
        simp only [putIR, Bool.false_or, decide_eq_false h3]
        rw [if_neg (fun h => h3 h.2.1)]
        refine List.pairwise_cons.2 ⟨fun y hy => ?_, ih⟩
        rcases (mem_putIR n l false y).1 hy with ⟨_, rfl⟩ | hy
        · omega
        · exact h1 y hy
    · have hx := ht rfl z (List.mem_cons_self)
      have ih := putIR_rises n l true h2 (fun _ y hy => ht rfl y (List.mem_cons_of_mem _ hy))
      simp only [putIR, Bool.true_or]
      rw [if_neg (fun h => by cases h.1)]
      refine List.pairwise_cons.2 ⟨fun y hy => ?_, ih⟩
      rcases (mem_putIR n l true y).1 hy with ⟨h, _⟩ | hy
      · cases h
      · exact h1 y hy
theorem putI_rises {l : List Int} (h : irises l) (n : Int) : irises (putI l n) := putIR_rises n l false h (fun h => by cases h)
theorem foldI_both (r : List Nd) {o : List Int} (h : irises o) : irises (r.foldl (fun o x => putI o x.id) o) ∧ ∀ i, i ∈ r.foldl (fun o x => putI o x.id) o ↔ i ∈ o ∨ ∃ x ∈ r, x.id = i := by
  induction r generalizing o with
  | nil => exact ⟨h, fun i => by simp⟩
  | cons x r ih =>
    obtain ⟨h1, h2⟩ := ih (putI_rises h x.id)
    refine ⟨h1, fun i => ?_⟩
    rw [List.foldl_cons, h2 i, mem_putI]
    constructor
    · rintro ((h | h) | ⟨y, hy, h⟩)
      · exact Or.inr ⟨x, List.mem_cons_self, h.symm⟩
      · exact Or.inl h
      · exact Or.inr ⟨y, List.mem_cons_of_mem _ hy, h⟩
    · rintro (h | ⟨y, hy, h⟩)
      · exact Or.inl (Or.inr h)
      · rcases List.mem_cons.1 hy with rfl | hy
        · exact Or.inl (Or.inl h.symm)
        · exact Or.inr ⟨y, hy, h⟩
theorem idsN_both (F : Fd) : ∀ n, irises (idsN F n) ∧ ∀ i, i ∈ idsN F n ↔ ∃ m, m < n ∧ ∃ x ∈ behP F m, x.id = i
  | 0 => ⟨List.Pairwise.nil, fun i => by simp [idsN]⟩
  | n + 1 => by
    obtain ⟨h1, h2⟩ := idsN_both F n
    obtain ⟨h3, h4⟩ := foldI_both (behP F n) h1
    refine ⟨h3, fun i => ?_⟩
    rw [idsN, idsF, h4 i, h2 i]
    constructor
    · rintro (⟨m, hm, hx⟩ | hx)
      · exact ⟨m, by omega, hx⟩
      · exact ⟨n, by omega, hx⟩
    · rintro ⟨m, hm, hx⟩
      by_cases e : m = n
      · subst e; exact Or.inr hx
      · exact Or.inl ⟨m, by omega, hx⟩
theorem mem_idsP (F : Fd) (i : Int) : i ∈ idsP F ↔ ∃ m, m ≤ F.p.length ∧ ∃ x ∈ behP F m, x.id = i := by
  rw [idsP, (idsN_both F _).2 i]
  constructor <;> rintro ⟨m, hm, hx⟩ <;> exact ⟨m, by omega, hx⟩
theorem irises_ext {l m : List Int} (hl : irises l) (hm : irises m) (hmem : ∀ x, x ∈ l ↔ x ∈ m) : l = m := by
  induction l generalizing m with
  | nil => cases m with
    | nil => rfl
    | cons y m => have := (hmem y).2 List.mem_cons_self; cases this
  | cons x l ih => cases m with
    | nil => have := (hmem x).1 List.mem_cons_self; cases this
    | cons y m =>
      obtain ⟨a1, a2⟩ := List.pairwise_cons.1 hl
      obtain ⟨b1, b2⟩ := List.pairwise_cons.1 hm
      have hxy : x = y := by
        rcases List.mem_cons.1 ((hmem x).1 List.mem_cons_self) with e | hx
        · exact e
        · rcases List.mem_cons.1 ((hmem y).2 List.mem_cons_self) with e | hy
          · exact e.symm
          · have h1 := b1 x hx; have h2 := a1 y hy; omega
      subst hxy
      congr 1
      refine ih a2 b2 fun z => ⟨fun hz => ?_, fun hz => ?_⟩
      · rcases List.mem_cons.1 ((hmem z).1 (List.mem_cons_of_mem _ hz)) with e | h
        · subst e; have := a1 _ hz; omega
        · exact h
      · rcases List.mem_cons.1 ((hmem z).2 (List.mem_cons_of_mem _ hz)) with e | h
        · subst e; have := b1 _ hz; omega
        · exact h
/-- the numbers that the names' files have, from the function's side -/
theorem mem_idsP' (F : Fd) (i : Int) : i ∈ idsP F ↔ (∃ s, findP F.l s = some i) ∨ ∃ c ∈ F.p, c.k = 1 ∧ c.id = i := by
  have key : ∀ m, (∃ s, aftF F m s = some i) → (∃ s, findP F.l s = some i) ∨ ∃ c ∈ F.p, c.k = 1 ∧ c.id = i := by
    intro m
    induction m with
    | zero => exact Or.inl
    | succ m ih =>
      by_cases hm : m < F.p.length
      · rintro ⟨s, hs⟩
        rw [aftF_step hm] at hs
        have hc : F.p.getD m cg0 ∈ F.p := by rw [List.getD_eq_getElem?_getD, List.getElem?_eq_getElem hm]; exact List.getElem_mem hm
        generalize F.p.getD m cg0 = c at *
        unfold chgF at hs
        split at hs
        · split at hs
          · rename_i h1 _
            simp only [Option.some.injEq] at hs
            exact Or.inr ⟨c, hc, h1, hs⟩
          · exact ih ⟨s, hs⟩
        · split at hs
          · exact ih ⟨s, hs⟩
          · rename_i j hj
            split at hs
            · split at hs
              · simp only [Option.some.injEq] at hs
                subst hs
                exact ih ⟨_, hj⟩
              · split at hs
                · cases hs
                · exact ih ⟨s, hs⟩
            · split at hs
              · split at hs
                · cases hs
                · exact ih ⟨s, hs⟩
              · exact ih ⟨s, hs⟩
      · intro h
        have e : aftF F (m + 1) = aftF F m := by
          unfold aftF
          rw [List.take_of_length_le (by omega), List.take_of_length_le (by omega)]
        rw [e] at h
        exact ih h
  rw [mem_idsP]
  constructor
  · rintro ⟨m, _, x, hx, rfl⟩
    obtain ⟨h1, h2⟩ := beh_both F m
    refine key m ⟨x.s, ?_⟩
    rw [← h2]
    exact (find_mem h1 _ _).2 hx
  · rintro (⟨s, hs⟩ | ⟨c, hc, h1, h2⟩)
    · obtain ⟨h3, h4⟩ := beh_both F 0
      refine ⟨0, by omega, ⟨s, i⟩, (find_mem h3 _ _).1 ?_, rfl⟩
      rw [h4]; exact hs
    · obtain ⟨m, hm, rfl⟩ := List.getElem_of_mem hc
      obtain ⟨h3, h4⟩ := beh_both F (m + 1)
      refine ⟨m + 1, by omega, ⟨F.p[m].a, i⟩, (find_mem h3 _ _).1 ?_, rfl⟩
      rw [h4, aftF_step hm, List.getD_eq_getElem?_getD, List.getElem?_eq_getElem hm]
      unfold chgF
      dsimp only [Option.getD_some]
      rw [if_pos h1, if_pos rfl, h2]
theorem behP_ids (F : Fd) (n : Nat) : ∀ x ∈ behP F n, x.id ∈ idsP F := by
  intro x hx
  rw [mem_idsP]
  by_cases h : n ≤ F.p.length
  · exact ⟨n, h, x, hx, rfl⟩
  · refine ⟨F.p.length, Nat.le_refl _, x, ?_, rfl⟩
    rw [behP_all (by omega)] at hx
    exact hx

/-! ### a change -/
def errP (disk : List Int → Bool) (F : Fd) (c : Cg) : Int :=
  if c.k = 1 then (if disk (numsOf c.a) = false then 12 else if (findP (nowP F) c.a).isSome = true then 7 else 0)
  else if c.k = 2 then (if (findP (nowP F) c.a).isSome = false then 6 else if disk (numsOf c.b) = false then 12 else 0)
  else if c.k = 3 then (if (findP (nowP F) c.a).isSome = false then 6 else 0)
  else 2
def doP (disk : List Int → Bool) (F : Fd) (c : Cg) : Fd := if errP disk F c = 0 then ⟨F.l, F.p ++ [c]⟩ else F
end Go.Proofs.Ytebkpjnnmlccmaa
