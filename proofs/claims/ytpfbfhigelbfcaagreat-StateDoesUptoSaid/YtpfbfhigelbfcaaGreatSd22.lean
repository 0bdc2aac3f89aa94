/- Layer 22, plainly: the words of all that lives, and what loads and rows are made of them -/
import Derived.Test.YtpfbfhigelbfcaaGreatSd16
import Derived.Test.YtpfbfhigelbfcaaGreatSd21
set_option linter.unusedSimpArgs false
set_option linter.unusedVariables false
namespace Go.Proofs.YtpfbfhigelbfcaaGreat
open Go.RowKit Go.Lib
/-- the number of a value -/
def intZ : Value → Int | .int _ q => q | _ => 0
def zaE (e : Pe) : Bool := aliveB (decide (e.k = 5)) e.ins e.seg
def zaT (t : Pt) : Bool := aliveB t.gone t.ins t.seg
def zwE (L : List Pe) : List Wq := (L.filter zaE).map wordE
def zwT (L : List Pt) : List Wq := (L.filter zaT).map wordT
/-- what all live records say -/
def zwL (x : Ps) : List Wq := zwE x.D ++ zwT x.T
theorem zwE_step {L : List Pe} {k : Nat} {x : Pe} (h : L[k]? = some x) : zwE (L.take (k + 1)) = if zaE x = true then zwE (L.take k) ++ [wordE x] else zwE (L.take k) := by
 obtain ⟨h2, h3⟩ := List.getElem?_eq_some_iff.1 h
 unfold zwE
 rw [List.take_succ_eq_append_getElem h2, h3, List.filter_append, List.map_append]
 by_cases hh : zaE x = true
 ·rw [if_pos hh, List.filter_cons_of_pos hh]; rfl
 ·rw [if_neg hh, List.filter_cons_of_neg hh]; simp
theorem zwT_step {L : List Pt} {k : Nat} {x : Pt} (h : L[k]? = some x) : zwT (L.take (k + 1)) = if zaT x = true then zwT (L.take k) ++ [wordT x] else zwT (L.take k) := by
 obtain ⟨h2, h3⟩ := List.getElem?_eq_some_iff.1 h
 unfold zwT
 rw [List.take_succ_eq_append_getElem h2, h3, List.filter_append, List.map_append]
 by_cases hh : zaT x = true
 ·rw [if_pos hh, List.filter_cons_of_pos hh]; rfl
 ·rw [if_neg hh, List.filter_cons_of_neg hh]; simp
theorem zwE_len (L : List Pe) : (zwE L).length ≤ L.length := by unfold zwE; rw [List.length_map]; exact List.length_filter_le _ _
theorem zwT_len (L : List Pt) : (zwT L).length ≤ L.length := by unfold zwT; rw [List.length_map]; exact List.length_filter_le _ _
theorem zwL_len (x : Ps) : (zwL x).length ≤ x.D.length + x.T.length := by
 unfold zwL
 rw [List.length_append]
 have := zwE_len x.D
 have := zwT_len x.T
 omega
theorem zwL_in {x : Ps} (h : x.In) : ∀ y ∈ zwL x, y.In := fun y hy => by
 unfold zwL zwE zwT at hy
 rcases List.mem_append.1 hy with hy | hy
 ·obtain ⟨e, he, rfl⟩ := List.mem_map.1 hy
  exact h.d e (List.mem_filter.1 he).1
 ·obtain ⟨e, he, rfl⟩ := List.mem_map.1 hy
  exact h.t e (List.mem_filter.1 he).1
theorem putB_true (w : Wq) : ∀ l, putB w l true = l
 | [] => rfl
 | x :: M => by unfold putB; rw [if_neg (by simp)]; simp [putB_true w M]
theorem putW_is (w : Wq) : ∀ l, putW l w = putK (fun y : Wq => y.off) w l
 | [] => rfl
 | x :: M => by
   have ih := putW_is w M
   unfold putW at ih ⊢
   unfold putB putK
   by_cases h : w.off < x.off
   ·rw [if_pos ⟨rfl, h⟩, if_pos h]; simp [h, putB_true]
   ·rw [if_neg (fun e => h e.2), if_neg h]; simp [h, ih]
theorem foldW_is (l o : List Wq) : l.foldl putW o = l.foldl (fun o x => putK (fun y : Wq => y.off) x o) o := by
 have : putW = fun o x => putK (fun y : Wq => y.off) x o := funext fun o => funext fun x => putW_is x o
 rw [this]
/-- what lives in a segment, in its order -/
theorem hereP_sort (x : Ps) (s : Int) : hereP x s = sortK (fun y : Wq => y.off) ((zwL x).filter fun y => decide (y.seg = s)) := by
 unfold hereP sortK zwL zwE zwT
 rw [foldW_is]
 congr 1
 rw [List.filter_append, List.filter_map, List.filter_map, List.filter_filter, List.filter_filter]
 congr 2
 ·refine List.filter_congr fun e _ => ?_
  show hereE s e = _
  unfold hereE zaE
  show _ = (decide (e.seg = s) && aliveB (decide (e.k = 5)) e.ins e.seg)
  by_cases h : e.seg = s
  ·rw [h]
  ·simp [h]
 ·refine List.filter_congr fun e _ => ?_
  show hereT s e = _
  unfold hereT zaT
  show _ = (decide (e.seg = s) && aliveB e.gone e.ins e.seg)
  by_cases h : e.seg = s
  ·rw [h]
  ·simp [h]
theorem sum_putK (w : Wq) : ∀ l : List Wq, ((putK (fun y : Wq => y.off) w l).map (·.len)).sum = w.len + (l.map (·.len)).sum
 | [] => by simp [putK]
 | x :: M => by
   have ih := sum_putK w M
   unfold putK
   split
   ·simp
   ·rw [List.map_cons, List.sum_cons, ih, List.map_cons, List.sum_cons]; omega
theorem sum_foldK : ∀ (l o : List Wq), ((l.foldl (fun o x => putK (fun y : Wq => y.off) x o) o).map (·.len)).sum = (o.map (·.len)).sum + (l.map (·.len)).sum
 | [], o => by simp
 | x :: l, o => by
   rw [List.foldl_cons, sum_foldK l, sum_putK, List.map_cons, List.sum_cons]; omega
/-- how much lives of each segment, word by word -/
def accJ (l : List Wq) : Int → Option Int := l.foldl (fun f y => fun t => if t = y.seg then some (IntKind.i64.wrap ((f y.seg).getD 0 + y.len)) else f t) (fun _ => none)
theorem accJ_snoc (l : List Wq) (y : Wq) : accJ (l ++ [y]) = fun t => if t = y.seg then some (IntKind.i64.wrap ((accJ l y.seg).getD 0 + y.len)) else accJ l t := by unfold accJ; rw [List.foldl_append]; rfl
theorem wrap_addJ (a b : Int) : IntKind.i64.wrap (IntKind.i64.wrap a + b) = IntKind.i64.wrap (a + b) := by
 rw [IntKind.wrap_i64, IntKind.wrap_i64, IntKind.wrap_i64]; omega
theorem accJ_is : ∀ (n : Nat) (l : List Wq), l.length = n → ∀ s, (accJ l s).getD 0 = IntKind.i64.wrap (((l.filter fun y => decide (y.seg = s)).map (·.len)).sum)
 | 0, l, h, s => by
   obtain rfl := List.length_eq_zero_iff.1 h
   rfl
 | n + 1, l, h, s => by
   obtain ⟨l, y, rfl⟩ : ∃ l' y, l = l' ++ [y] := ⟨l.dropLast, l.getLast (by intro e; rw [e] at h; cases h), (List.dropLast_concat_getLast _).symm⟩
   have ih := accJ_is n l (by simpa using h)
   rw [accJ_snoc, List.filter_append, List.map_append, List.sum_append]
   dsimp only
   by_cases e : s = y.seg
   ·subst e
    rw [if_pos rfl, Option.getD_some, ih, wrap_addJ, List.filter_cons_of_pos (by simp)]
    simp
   ·rw [if_neg e, ih, List.filter_cons_of_neg (by simpa using fun h => e h.symm)]
    simp
theorem loadsP_is (x : Ps) : loadsP x = x.L.map fun y => (y.1, y.2, (accJ (zwL x) y.1).getD 0) := by
 unfold loadsP
 refine List.map_congr_left fun y _ => ?_
 rw [accJ_is _ _ rfl, hereP_sort]
 congr 2
 unfold sumW sortK
 rw [sum_foldK]
 simp
/-- rows of words: what is sorted in memory -/
theorem putK_map {α β : Type} (f : α → β) (key : β → Int) (x : α) : ∀ l : List α, (putK (fun a => key (f a)) x l).map f = putK key (f x) (l.map f)
 | [] => rfl
 | y :: M => by
   show (if key (f x) < key (f y) then x :: y :: M else y :: putK (fun a => key (f a)) x M).map f = if key (f x) < key (f y) then f x :: f y :: M.map f else f y :: putK key (f x) (M.map f)
   split
   ·rfl
   ·rw [List.map_cons, putK_map f key x M]
theorem foldK_map {α β : Type} (f : α → β) (key : β → Int) : ∀ (l o : List α), (l.foldl (fun o x => putK (fun a => key (f a)) x o) o).map f = (l.map f).foldl (fun o x => putK key x o) (o.map f)
 | [], o => rfl
 | x :: l, o => by rw [List.foldl_cons, foldK_map f key l, putK_map]; rfl
theorem sortK_map {α β : Type} (f : α → β) (key : β → Int) (l : List α) : (sortK (fun a => key (f a)) l).map f = sortK key (l.map f) := foldK_map f key l []
end Go.Proofs.YtpfbfhigelbfcaaGreat

