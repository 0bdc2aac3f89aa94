/- Layer 15, the law: what it wants of Parse; words in memory; Rows of words that grow; four results; Layer 16, the laws: what they want of package segment; Layer 15, the program: what tells one record from another: isMember, isCommit, isNext; Layer 15, the reference: Words (of rows that are the same) -/
import Derived.Test.YtjdigncieoaglaaSt3
import Derived.Test.YtjdigncieoaglaaSt11
import Derived.Test.YtjdigncieoaglaaSt14
import Derived.Test.YtjdigncieoaglaaSt15
import Derived.Great.BuildSlice
set_option linter.unusedSimpArgs false
set_option linter.unusedVariables false
namespace Go.Proofs.Ytjdigncieoaglaa
set_option linter.unusedVariables false
open Go.RowKit Go.Lib

/-- a word, plainly -/
def Wq.wd (x : Wq) : Wd := ⟨x.k, x.s, x.dg, numsOf x.nm, x.z, x.seg, x.off, x.len⟩
def BpQ (w : World) (zs : List Int) (a seg : Int) (e : Ending) (w' : World) : Prop :=
  ∃ (q : Option Addr) (n c : Nat) (L : List Wx), e = .returned (.tuple #[.slice q n c, .int .i64 (bpF zs a seg).e, .int .u64 (bpF zs a seg).s, .int .i64 (bpF zs a seg).err]) ∧ Gs encWd w' q n L ∧ (L.map fun x => x.1.wd) = (bpF zs a seg).ws ∧ (∀ x ∈ L, x.1.Ok) ∧ n ≤ c ∧ c ≤ maxLen ∧ (q = none → c = 0) ∧ Below w.heap.size w w'
def cbParseOk : Prop := ∀ (p : Option Addr) (len cap : Nat) (zs : List Int) (a seg : Int) (w : World), Bs w p len zs → (p = none → cap = 0) → len ≤ cap → cap ≤ maxLen → len ≤ 2097216 → (-9223372036854775808 ≤ a ∧ a ≤ 9223372036854775807) → (-9223372036854775808 ≤ seg ∧ seg ≤ 9223372036854775807) →
    Calls Try.prog 38 #[.slice p len cap, .int .i64 a, .int .i64 seg] w fun e w' => BpQ w zs a seg e w'

theorem wp_build_is {P : Program} {o : Oper} {a : Act} {w : World} {K : Act → World → Prop} {Q : Exit → Act → World → Prop} (t : TypeId) (parts : Array (Nat × Operand)) (ho : o.op = .build t parts) (cells : Array Value)
    (hf : P.built t (parts.map fun (i, x) => (i, a.eval x)).toList = some cells) (h : K (a.put o.dst (.agg cells)) w) : o.wp P a w K Q :=
  wp_build t parts ho (by rw [hf]; rfl) (by rw [hf]; exact h)
theorem infoRec : (Try.prog.info? 29).map (fun i => (i.zero, i.size)) = some (some (.agg (mixC rq0.a rq0.dg rq0.z)), 38) := by kernel_rfl
/-- '[]Record{x}': one record laid anew. -/
theorem wpList_build_rec {ops : Array Oper} {rest : List Oper} {o : Oper} {a : Act} {w : World} {Q : Exit → Act → World → Prop} (hg : o.guard = none) (t : TypeId) (x : Nat) (ho : o.op = .buildSlice t 1 #[(0, .tmp x)])
    (hu : Try.prog.underlying t = some (.slice 29)) (q : Rx) (hx : a.eval (.tmp x) = .agg (mixC q.1.a q.1.dg q.1.z))
    (h : wpList Try.prog ops Q rest (a.put o.dst (.slice (some ⟨w.heap.size, 0, none⟩) 1 1)) (w.alloc (.cells (mixC q.1.a q.1.dg q.1.z) 29))) : wpList Try.prog ops Q (o :: rest) a w := by
  obtain ⟨i, hi, hzz⟩ := Option.map_eq_some_iff.1 infoRec
  simp only [Prod.mk.injEq] at hzz
  obtain ⟨hz, hsz⟩ := hzz
  refine wpList_buildSlice hg t 29 1 _ ho (mixC q.1.a q.1.dg q.1.z) i _ hu hi hz (by rw [hsz]; decide) (by rw [hsz]; decide) ?_ h
  rw [hsz]
  have hf := Great.fill_whole (s := 38) (by decide) [.agg (mixC q.1.a q.1.dg q.1.z)] ((Array.range (1 * 38)).map ((Value.agg (mixC rq0.a rq0.dg rq0.z)).cells[· % (Value.agg (mixC rq0.a rq0.dg rq0.z)).cells.size]!)) (by
    intro v hv
    rw [List.mem_singleton] at hv
    subst hv
    show (mixC q.1.a q.1.dg q.1.z).size = 38
    exact q.1.size q.2) (by simp)
  have e : (#[(0, Operand.tmp x)].map fun (p : Nat × Operand) => (p.1, a.eval p.2)).toList = [((0 : Nat), Value.agg (mixC q.1.a q.1.dg q.1.z))] := by
    simp [hx]
  rw [e]
  refine (Eq.trans ?_ hf).trans ?_
  · rfl
  · simp [Value.cells]
theorem Gs.oneRec (w : World) (q : Rx) : Gs encRc (w.alloc (.cells (mixC q.1.a q.1.dg q.1.z) 29)) (some ⟨w.heap.size, 0, none⟩) 1 [q] := Gs.one encRc w q _ rfl _ _
theorem word_load {W : World} {b o : Nat} {x : Wx} (h : W.rangeAt b o (mixL x.1.a x.1.dg x.1.t)) : (Instr.loadAt 50 (.pointer (some ⟨b, o, none⟩))).run Try.prog W = .ok (.agg (mixC x.1.a x.1.dg x.1.t)) W :=
  run_loadAt_mid W b o 50 _ _ h Try.underlying50 rfl (by rw [mixL_length, x.2]; exact size39)
theorem Gs.word {W : World} {p : Option Addr} {n : Nat} {L : List Wx} (h : Gs encWd W p n L) (j : Nat) (hj : j < n) :
    ∃ b off x, p = some ⟨b, off, none⟩ ∧ L[j]? = some x ∧ x ∈ L ∧ W.rangeAt b (off + j * 39) (mixL x.1.a x.1.dg x.1.t) := by
  obtain ⟨b, off, hp, hc⟩ := h.ptr j hj
  have hl := h.len
  have hx : L[j]? = some (L[j]'(by omega)) := List.getElem?_eq_getElem _
  have e : L.getD j encWd.d = L[j]'(by omega) := by rw [List.getD_eq_getElem?_getD, hx]; rfl
  rw [e] at hc
  exact ⟨b, off, _, hp, hx, List.getElem_mem _, fun i v hv => hc i v hv⟩
theorem Wq.wd_inj {x y : Wq} (h : x.wd = y.wd) : x = y := by
  obtain ⟨k, s, dg, nm, z, seg, off, len⟩ := x
  obtain ⟨k', s', dg', nm', z', seg', off', len'⟩ := y
  unfold Wq.wd at h
  simp only [Wd.mk.injEq] at h
  obtain ⟨rfl, rfl, rfl, h4, rfl, rfl, rfl, rfl⟩ := h
  obtain rfl := numsOf_inj h4
  rfl

theorem wordQ_wd {x : Rq} {w : World} (h : x.Fit w) (seg off len : Int) : (wordQ x seg off len).wd = wordN x.rc seg off len := by
  have hn := h.bs.len
  unfold wordQ wordN Wq.wd Rq.rc
  dsimp only
  split
  · rfl
  · simp only [Wd.mk.injEq, true_and, and_true]
    refine ⟨?_, ?_⟩
    · split <;> rfl
    · rw [hn]

end Go.Proofs.Ytjdigncieoaglaa

namespace Go.Proofs.Ytjdigncieoaglaa
set_option linter.unusedVariables false
open Go.RowKit Go.Lib

theorem results_tmp4 {fn : Func} {t u v x : Tmp} (h : fn.results = #[.tmp t, .tmp u, .tmp v, .tmp x]) (tmps : Array Value) (P : Program) (w : World) :
    (results fn tmps).run P w = .ok (.tuple #[tmps.getD t undef, tmps.getD u undef, tmps.getD v undef, tmps.getD x undef]) w := by
  simp [results, h]
def wzero : Value := .agg (mixC wq0.a wq0.dg wq0.t)
theorem infoWd : (Try.prog.info? encWd.t).map (fun i => (i.zero, i.size, i.bytes)) = some (some wzero, encWd.k, 96) := by kernel_rfl
theorem wzero_size : wzero.cells.size = encWd.k := by kernel_rfl
/-- '[]Word{x}': one word laid anew. -/
theorem wpList_build_wd {ops : Array Oper} {rest : List Oper} {o : Oper} {a : Act} {w : World} {Q : Exit → Act → World → Prop} (hg : o.guard = none) (t : TypeId) (x : Nat) (ho : o.op = .buildSlice t 1 #[(0, .tmp x)])
    (hu : Try.prog.underlying t = some (.slice 50)) (q : Wx) (hx : a.eval (.tmp x) = .agg (mixC q.1.a q.1.dg q.1.t))
    (h : wpList Try.prog ops Q rest (a.put o.dst (.slice (some ⟨w.heap.size, 0, none⟩) 1 1)) (w.alloc (.cells (mixC q.1.a q.1.dg q.1.t) 50))) : wpList Try.prog ops Q (o :: rest) a w := by
  obtain ⟨i, hi, hzz⟩ := Option.map_eq_some_iff.1 infoWd
  simp only [Prod.mk.injEq] at hzz
  obtain ⟨hz, hsz, _⟩ := hzz
  have hsz' : i.size = 39 := hsz
  refine wpList_buildSlice hg t 50 1 _ ho (mixC q.1.a q.1.dg q.1.t) i _ hu hi hz (by rw [hsz']; decide) (by rw [hsz']; decide) ?_ h
  rw [hsz']
  have hf := Great.fill_whole (s := 39) (by decide) [.agg (mixC q.1.a q.1.dg q.1.t)] ((Array.range (1 * 39)).map (wzero.cells[· % wzero.cells.size]!)) (by
    intro v hv
    rw [List.mem_singleton] at hv
    subst hv
    show (mixC q.1.a q.1.dg q.1.t).size = 39
    exact q.1.size q.2) (by simp)
  have e : (#[(0, Operand.tmp x)].map fun (p : Nat × Operand) => (p.1, a.eval p.2)).toList = [((0 : Nat), Value.agg (mixC q.1.a q.1.dg q.1.t))] := by
    simp [hx]
  rw [e]
  refine (Eq.trans ?_ hf).trans ?_
  · rfl
  · simp [Value.cells]
theorem Gs.oneWd (w : World) (q : Wx) : Gs encWd (w.alloc (.cells (mixC q.1.a q.1.dg q.1.t) 50)) (some ⟨w.heap.size, 0, none⟩) 1 [q] := Gs.one encWd w q _ rfl _ _
/-- what the words of a row are -/
def wdL (L : List Wx) : List Wd := L.map fun x => x.1.wd
theorem wdL_append (L M : List Wx) : wdL (L ++ M) = wdL L ++ wdL M := List.map_append
theorem wdL_length (L : List Wx) : (wdL L).length = L.length := List.length_map _
/-- the last word's number -/
theorem Gw.lastS {W : World} {B : Nat} {v : Value} {L : List Wx} (h : Gw encWd W B v L) (hn : L ≠ []) :
    ∃ g c, v = .slice (some ⟨g, 0, none⟩) L.length c ∧ W.cell? ⟨g, (L.length - 1) * 39 + 1, none⟩ = some (.int .u64 (lastS (wdL L))) := by
  obtain ⟨M, x, rfl⟩ : ∃ M x, L = M ++ [x] := ⟨_, _, (List.dropLast_concat_getLast hn).symm⟩
  obtain ⟨p, c, hv, h1, h2, h3, h4⟩ := h.open
  subst hv
  obtain ⟨g, rfl⟩ := h.ptr (by simp)
  refine ⟨g, c, rfl, ?_⟩
  have hl : (M ++ [x]).length = M.length + 1 := by simp
  obtain ⟨b, off, y, hp, hy, _, hr⟩ := h.gs.word M.length (by rw [hl]; omega)
  simp only [Option.some.injEq, Addr.mk.injEq, and_true] at hp
  obtain ⟨rfl, rfl⟩ := hp
  rw [List.getElem?_append_right (Nat.le_refl _), Nat.sub_self] at hy
  obtain rfl : x = y := by simpa using hy
  rw [wdL_append, show wdL [x] = [x.1.wd] from rfl, lastS_append, hl, Nat.add_sub_cancel]
  have := hr 1 (.int .u64 x.1.s) rfl
  rw [Nat.zero_add] at this
  exact this
theorem BpQ.of {w w' : World} {zs : List Int} {a seg : Int} {b : Bp} (hb : bpF zs a seg = b) (q : Option Addr) (n c : Nat) (L : List Wx) (hg : Gs encWd w' q n L) (hl : wdL L = b.ws) (hk : ∀ x ∈ L, x.1.Ok) (hnc : n ≤ c) (hcm : c ≤ maxLen) (hpc : q = none → c = 0) (hw : Below w.heap.size w w') {v1 v2 v3 : Int} (h1 : v1 = b.e) (h2 : v2 = b.s) (h3 : v3 = b.err) :
    BpQ w zs a seg (.returned (.tuple #[.slice q n c, .int .i64 v1, .int .u64 v2, .int .i64 v3])) w' := by
  subst hb h1 h2 h3
  exact ⟨q, n, c, L, rfl, hg, hl, hk, hnc, hcm, hpc, hw⟩
theorem BpQ.no {w w' : World} {zs : List Int} {a seg : Int} {err : Int} (hb : bpF zs a seg = bpNo err) (hw : Below w.heap.size w w') {v3 : Int} (h3 : v3 = err) :
    BpQ w zs a seg (.returned (.tuple #[.slice none 0 0, .int .i64 0, .int .u64 0, .int .i64 v3])) w' :=
  BpQ.of hb none 0 0 [] (Gs.empty _ _ _) rfl (fun x hx => by cases hx) (Nat.le_refl _) (Nat.zero_le _) (fun _ => rfl) hw rfl rfl h3
end Go.Proofs.Ytjdigncieoaglaa

namespace Go.Proofs.Ytjdigncieoaglaa
set_option linter.unusedVariables false
open Go.RowKit Go.Lib

/-- a scan, as it lies -/
def scanV (q : Option Addr) (m c : Nat) (F : Sc) : Value := .agg #[.slice q m c, .int .u64 F.s, .int .i64 F.e, .bool F.sealed_, .int .i64 F.at_, .int .i64 F.err]
def ScQ (w : World) (zs : List Int) (n : Int) (e : Ending) (w' : World) : Prop :=
  ∃ (q : Option Addr) (m c : Nat) (L : List Wx), e = .returned (scanV q m c (scF zs n)) ∧ Gs encWd w' q m L ∧ wdL L = (scF zs n).ws ∧ (∀ x ∈ L, x.1.Ok) ∧ m ≤ c ∧ c ≤ maxLen ∧ (q = none → c = 0) ∧ m ≤ 2097216 ∧ Below w.heap.size w w'
theorem ScQ.of {w w' : World} {zs : List Int} {n : Int} {F : Sc} (hF : scF zs n = F) (q : Option Addr) (m c : Nat) (L : List Wx) (hg : Gs encWd w' q m L) (hl : wdL L = F.ws) (hk : ∀ x ∈ L, x.1.Ok) (hmc : m ≤ c) (hcm : c ≤ maxLen) (hpc : q = none → c = 0) (hm : m ≤ 2097216) (hb : Below w.heap.size w w') {v : Value} (hv : v = scanV q m c F) :
    ScQ w zs n (.returned v) w' := by
  subst hF hv
  exact ⟨q, m, c, L, rfl, hg, hl, hk, hmc, hcm, hpc, hm, hb⟩
def csHeadOk : Prop := ∀ (n s : Int) (w : World), (-9223372036854775808 ≤ n ∧ n ≤ 9223372036854775807) → (0 ≤ s ∧ s < 18446744073709551616) →
    Calls Try.prog 9 #[.int .i64 n, .int .u64 s] w fun e w' => ∃ v, e = .returned v ∧ Ob w' w.heap.size 5 v (makeN (headN n s)) ∧ Below w.heap.size w w'
def csFootOk : Prop := ∀ (n z s : Int) (w : World), (-9223372036854775808 ≤ n ∧ n ≤ 9223372036854775807) → (-9223372036854775808 ≤ z ∧ z ≤ 9223372036854775807) → (0 ≤ s ∧ s < 18446744073709551616) →
    Calls Try.prog 10 #[.int .i64 n, .int .i64 z, .int .u64 s] w fun e w' => ∃ v, e = .returned v ∧ Ob w' w.heap.size 5 v (makeN (footN s n z)) ∧ Below w.heap.size w w'
def csScanOk : Prop := ∀ (p : Option Addr) (len cap : Nat) (zs : List Int) (n : Int) (w : World), Bs w p len zs → (p = none → cap = 0) → len ≤ cap → cap ≤ maxLen → len ≤ 2097216 → (-9223372036854775808 ≤ n ∧ n ≤ 9223372036854775807) →
    Calls Try.prog 13 #[.slice p len cap, .int .i64 n] w fun e w' => ScQ w zs n e w'
end Go.Proofs.Ytjdigncieoaglaa

namespace Go.Proofs.Ytjdigncieoaglaa
set_option linter.unusedVariables false
open Go.RowKit Go.Lib

/-- is it of a kind that stands ahead of a commit? -/
def memB (k : Int) : Bool := decide (1 ≤ k ∧ k ≤ 5)
set_option maxRecDepth 100000 in
set_option maxHeartbeats 1000000 in
theorem isMember_any (x : Rq) (w : World) (hd : x.dg.length = 32) : Calls Try.prog 55 #[.agg (mixC x.a x.dg x.z)] w fun e w' => e = .returned (.bool (memB x.k)) ∧ Below w.heap.size w w' := by
  obtain ⟨wA, hA, _, hb, c0, _⟩ := box_rec w x hd
  have HB := Lib.hid hb
  obtain ⟨R, hR⟩ : ∃ R, memB x.k = R := ⟨_, rfl⟩
  rw [hR]
  have HR : Hid (R = memB x.k) := Lib.hid hR.symm
  clear hR hb hd
  unfold memB at HR
  obtain ⟨k, s, dg, nm, p, n, c, da, N, Z⟩ := x
  dsimp only at *
  generalize mixC _ _ _ = M at *
  by_cases h : k < 1 ∨ k > 5
  · replace HR : Hid (R = false) := Lib.hid (by rw [HR.out]; exact decide_eq_false (by omega))
    have n1 : (k == 1) = false := by simp; omega
    have n2 : (k == 2) = false := by simp; omega
    have n3 : (k == 3) = false := by simp; omega
    have n4 : (k == 4) = false := by simp; omega
    have n5 : (k == 5) = false := by simp; omega
    clear h
    go_enter Try.func55, Try.ntmps55
    go_wp2
    go_ret
    exact ⟨by rw [HR.out]; rfl, HB.out⟩
  · replace HR : Hid (R = true) := Lib.hid (by rw [HR.out]; exact decide_eq_true (by omega))
    have hk : k = 1 ∨ k = 2 ∨ k = 3 ∨ k = 4 ∨ k = 5 := by omega
    clear h
    rcases hk with rfl | rfl | rfl | rfl | rfl
    all_goals (go_enter Try.func55, Try.ntmps55)
    all_goals go_wp2
    all_goals go_ret
    all_goals exact ⟨by rw [HR.out]; rfl, HB.out⟩
/-- is it the commit of n records, whose frames have z bytes? -/
def cmtB (k N Z n z : Int) : Bool := decide (k = 6 ∧ n > 0 ∧ N = n ∧ Z = z)
set_option maxRecDepth 100000 in
set_option maxHeartbeats 1000000 in
theorem isCommit_any (x : Rq) (n z : Int) (w : World) (hd : x.dg.length = 32) : Calls Try.prog 57 #[.agg (mixC x.a x.dg x.z), .int .i64 n, .int .i64 z] w fun e w' => e = .returned (.bool (cmtB x.k x.N x.Z n z)) ∧ Below w.heap.size w w' := by
  obtain ⟨wA, hA, _, hb, c0, _, _, _, c36, c37⟩ := box_rec w x hd
  have HB := Lib.hid hb
  obtain ⟨R, hR⟩ : ∃ R, cmtB x.k x.N x.Z n z = R := ⟨_, rfl⟩
  rw [hR]
  have HR : Hid (R = cmtB x.k x.N x.Z n z) := Lib.hid hR.symm
  clear hR hb hd
  unfold cmtB at HR
  obtain ⟨k, s, dg, nm, p, m, c, da, N, Z⟩ := x
  dsimp only at *
  generalize mixC _ _ _ = M at *
  by_cases h1 : k = 6
  · have d1 : (k == 6) = true := by simpa using h1
    by_cases h2 : n > 0
    · have d2 : decide (n > 0) = true := decide_eq_true h2
      have d2' : decide (0 < n) = true := decide_eq_true h2
      by_cases h3 : N = n
      · have d3 : (N == n) = true := by simpa using h3
        by_cases h4 : Z = z
        · have d4 : (Z == z) = true := by simpa using h4
          replace HR : Hid (R = true) := Lib.hid (by rw [HR.out]; exact decide_eq_true ⟨h1, h2, h3, h4⟩)
          clear h1 h3 h4
          go_enter Try.func57, Try.ntmps57
          go_wp2
          go_ret
          exact ⟨by rw [HR.out]; rfl, HB.out⟩
        · have d4 : (Z == z) = false := by simpa using h4
          replace HR : Hid (R = false) := Lib.hid (by rw [HR.out]; exact decide_eq_false fun h => h4 h.2.2.2)
          clear h1 h3 h4
          go_enter Try.func57, Try.ntmps57
          go_wp2
          go_ret
          exact ⟨by rw [HR.out]; rfl, HB.out⟩
      · have d3 : (N == n) = false := by simpa using h3
        replace HR : Hid (R = false) := Lib.hid (by rw [HR.out]; exact decide_eq_false fun h => h3 h.2.2.1)
        clear h1 h3
        go_enter Try.func57, Try.ntmps57
        go_wp2
        go_ret
        exact ⟨by rw [HR.out]; rfl, HB.out⟩
    · have d2 : decide (n > 0) = false := decide_eq_false h2
      have d2' : decide (0 < n) = false := decide_eq_false h2
      replace HR : Hid (R = false) := Lib.hid (by rw [HR.out]; exact decide_eq_false fun h => h2 h.2.1)
      clear h1
      go_enter Try.func57, Try.ntmps57
      go_wp2
      go_ret
      exact ⟨by rw [HR.out]; rfl, HB.out⟩
  · have d1 : (k == 6) = false := by simpa using h1
    replace HR : Hid (R = false) := Lib.hid (by rw [HR.out]; exact decide_eq_false fun h => h1 h.1)
    clear h1
    go_enter Try.func57, Try.ntmps57
    go_wp2
    go_ret
    exact ⟨by rw [HR.out]; rfl, HB.out⟩
/-- may this number stand behind these words? -/
def nextB (ws : List Wd) (s : Int) : Bool := decide (ws = [] ∨ (s > lastS ws ∧ s - lastS ws = 1))
theorem Gs.lastS {W : World} {p : Option Addr} {n m : Nat} {L : List Wx} (h : Gs encWd W p n L) (hn : n = m + 1) : ∃ b off, p = some ⟨b, off, none⟩ ∧ W.cell? ⟨b, off + m * 39 + 1, none⟩ = some (.int .u64 (lastS (wdL L))) := by
  subst hn
  obtain ⟨b, off, y, hp, hy, _, hr⟩ := h.word m (by omega)
  have hl := h.len
  have hne : L ≠ [] := fun e => by subst e; simp at hl
  obtain ⟨M, x, rfl⟩ : ∃ M x, L = M ++ [x] := ⟨_, _, (List.dropLast_concat_getLast hne).symm⟩
  have hm : M.length = m := by simpa using hl
  subst hm
  rw [List.getElem?_append_right (Nat.le_refl _), Nat.sub_self] at hy
  obtain rfl : x = y := by simpa using hy
  rw [wdL_append, show wdL [x] = [x.1.wd] from rfl, lastS_append]
  exact ⟨b, off, hp, hr 1 (.int .u64 x.1.s) rfl⟩
theorem lastS_ok {L : List Wx} (h : ∀ x ∈ L, x.1.Ok) : 0 ≤ lastS (wdL L) ∧ lastS (wdL L) < 18446744073709551616 := by
  by_cases hne : L = []
  · subst hne
    show (0 : Int) ≤ 0 ∧ (0 : Int) < _
    omega
  · obtain ⟨M, x, rfl⟩ : ∃ M x, L = M ++ [x] := ⟨_, _, (List.dropLast_concat_getLast hne).symm⟩
    rw [wdL_append, show wdL [x] = [x.1.wd] from rfl, lastS_append]
    exact (h x (by simp)).s
set_option maxRecDepth 100000 in
set_option maxHeartbeats 1000000 in
theorem isNext_any (p : Option Addr) (n c : Nat) (L : List Wx) (s : Int) (w : World) (h : Gs encWd w p n L) (hk : ∀ x ∈ L, x.1.Ok) (hs : 0 ≤ s ∧ s < 18446744073709551616) (hn : n ≤ 2097216) :
    Calls Try.prog 54 #[.slice p n c, .int .u64 s] w fun e w' => e = .returned (.bool (nextB (wdL L) s)) ∧ w = w' := by
  have HL := Lib.hid h.len
  obtain ⟨R, hR⟩ : ∃ R, nextB (wdL L) s = R := ⟨_, rfl⟩
  rw [hR]
  have HR : Hid (R = nextB (wdL L) s) := Lib.hid hR.symm
  clear hR
  unfold nextB at HR
  obtain ⟨hl0, hl1⟩ := lastS_ok hk
  by_cases h0 : n = 0
  · subst h0
    have hLe : L = [] := List.length_eq_zero_iff.1 HL.out
    replace HR : Hid (R = true) := Lib.hid (by rw [HR.out, hLe]; exact decide_eq_true (Or.inl rfl))
    clear hLe h hk hl0 hl1
    go_enter Try.func54, Try.ntmps54
    go_wp2
    go_ret
    exact ⟨by rw [HR.out]; rfl, rfl⟩
  obtain ⟨m, hm⟩ : ∃ m, n = m + 1 := ⟨n - 1, by omega⟩
  obtain ⟨b, off, rfl, hc⟩ := h.lastS hm
  have hLn : ¬ wdL L = [] := fun e => h0 (by rw [← HL.out, ← wdL_length, e]; rfl)
  have HLN := Lib.hid hLn
  obtain ⟨last, hlast⟩ : ∃ z, lastS (wdL L) = z := ⟨_, rfl⟩
  rw [hlast] at hc HR hl0 hl1
  have hne : ((n : Int) == 0) = false := by simpa using h0
  have hix : (n : Int) - 1 = (m : Int) := by omega
  have hmn : (m : Int) < (n : Int) := by omega
  clear h hk hm hlast h0 hLn
  by_cases h1 : s > last
  · have d1 : decide (s > last) = true := decide_eq_true h1
    have d1' : decide (last < s) = true := decide_eq_true h1
    obtain ⟨D, hD⟩ : ∃ D, IntKind.u64.wrap (s - last) = D := ⟨_, rfl⟩
    have HD : Hid (D = s - last) := Lib.hid (by rw [← hD]; exact wrap_u64_in (by omega) (by omega))
    by_cases h2 : D = 1
    · have d2 : (D == 1) = true := by simpa using h2
      replace HR : Hid (R = true) := Lib.hid (by rw [HR.out]; exact decide_eq_true (Or.inr ⟨h1, by rw [← HD.out]; exact h2⟩))
      clear h1 h2
      go_enter Try.func54, Try.ntmps54
      go_wp2
      go_ret
      exact ⟨by rw [HR.out]; rfl, rfl⟩
    · have d2 : (D == 1) = false := by simpa using h2
      replace HR : Hid (R = false) := Lib.hid (by
        rw [HR.out]
        refine decide_eq_false ?_
        rintro (h | h)
        · exact HLN.out h
        · exact h2 (by rw [HD.out]; exact h.2))
      clear h1 h2
      go_enter Try.func54, Try.ntmps54
      go_wp2
      go_ret
      exact ⟨by rw [HR.out]; rfl, rfl⟩
  · have d1 : decide (s > last) = false := decide_eq_false h1
    have d1' : decide (last < s) = false := decide_eq_false h1
    replace HR : Hid (R = false) := Lib.hid (by
      rw [HR.out]
      refine decide_eq_false ?_
      rintro (h | h)
      · exact HLN.out h
      · exact h1 h.1)
    clear h1
    go_enter Try.func54, Try.ntmps54
    go_wp2
    go_ret
    exact ⟨by rw [HR.out]; rfl, rfl⟩
end Go.Proofs.Ytjdigncieoaglaa

namespace Go.Proofs.Ytjdigncieoaglaa
set_option linter.unusedVariables false
open Go.RowKit Go.Lib

theorem wdL_inj : ∀ {L M : List Wx}, wdL L = wdL M → L = M
  | [], [], _ => rfl
  | [], y :: M, h => by simp [wdL] at h
  | x :: L, [], h => by simp [wdL] at h
  | x :: L, y :: M, h => by
    unfold wdL at h
    simp only [List.map_cons, List.cons.injEq] at h
    rw [Subtype.ext (Wq.wd_inj h.1), wdL_inj h.2]
set_option maxRecDepth 100000 in
set_option maxHeartbeats 2000000 in
theorem rwords_any (p q : Option Addr) (n c d : Nat) (L M : List Wx) (w : World) (hL : Gs encWd w p n L) (hM : Gs encWd w q n M) (he : wdL L = wdL M) (hk : ∀ x ∈ L, x.1.Ok) (hn : n ≤ 2097216) :
    Calls Try.prog 19 #[.slice p n c, .slice q n d] w fun e w' => e = .returned (.bool true) ∧ Below w.heap.size w w' := by
  obtain rfl := wdL_inj he
  have HL := Lib.hid hL
  have HM := Lib.hid hM
  have HK := Lib.hid hk
  clear hL hM he hk
  by_cases h0 : n = 0
  · subst h0
    go_enter Try.func19, Try.ntmps19
    go_wp2
    go_loopw [5] (fun i wr => i = .int .i64 0 ∧ w = wr) (fun _ _ => 0)
    case atStart => exact ⟨rfl, rfl⟩
    case round =>
      obtain ⟨rfl, rfl⟩ := hrel
      go_wp2
      go_ret
      exact ⟨rfl, Below.refl _ _⟩
  obtain ⟨b, off, rfl, _⟩ := HL.out.ptr 0 (by omega)
  obtain ⟨b2, off2, rfl, _⟩ := HM.out.ptr 0 (by omega)
  clear h0
  go_enter Try.func19, Try.ntmps19
  go_wp2
  go_loopw [5] (fun i wr => ∃ k : Nat, k ≤ n ∧ i = .int .i64 (k : Int) ∧ Hid (Below w.heap.size w wr)) (fun i _ => n - (intOf i).toNat)
  case atStart => exact ⟨0, by omega, rfl, Lib.hid (Below.refl _ _)⟩
  case round =>
    obtain ⟨k, hkn, rfl, HB⟩ := hrel
    by_cases hlt : k < n
    · obtain ⟨b', o', x, hp, hx, hxm, hr⟩ := (HL.out.later HB.out).word k hlt
      obtain ⟨b2', o2', y, hp2, hy, _, hr2⟩ := (HM.out.later HB.out).word k hlt
      simp only [Option.some.injEq, Addr.mk.injEq, and_true] at hp hp2
      obtain ⟨rfl, rfl⟩ := hp
      obtain ⟨rfl, rfl⟩ := hp2
      rw [hx] at hy
      obtain rfl : x = y := by simpa using hy
      have hki : (k : Int) < (n : Int) := by omega
      have hxk := HK.out x hxm
      have hxd := x.2
      have heq0 := word_eq hxk
      have HSS := Lib.hid fun V (hV : Below wr.heap.size wr V) => And.intro (range_later hr hV) (range_later hr2 hV)
      have HLW : Hid ((Try.prog.info? 50).map (·.size) = some (mixL x.1.a x.1.dg x.1.t).length) := Lib.hid (by rw [mixL_length, hxd]; exact size39)
      unfold mixC at heq0
      obtain ⟨LW, hLW⟩ : ∃ l, mixL x.1.a x.1.dg x.1.t = l := ⟨_, rfl⟩
      rw [hLW] at HSS HLW heq0
      have HKN := Lib.hid hlt
      clear hr hr2 hx hy hxm hxk hxd hLW
      go_upto_region 6 with fail
      refine wp_region_held_drew (S := (fun W => W.rangeAt b (off + k * 39) LW ∧ W.rangeAt b2 (off2 + k * 39) LW)) (by kernel_rfl) (HSS.out _ (Below.refl _ _).drew) (fun hHeld => ?_)
      refine take_at 0 (v := ?vv1) rfl (by kernel_rfl) (by kernel_rfl) (by kernel_rfl) (fun _ _ _ h => h) (Or.inl ⟨by rfl, ?hy1⟩) (by assumption) ?rest1
      case hy1 => intro w hSw; (try dsimp only at hSw); go_simp; (try with_reducible rfl)
      (try simp only [Act.put, List.setIfInBounds_toArray, List.set_cons_zero, List.set_cons_succ])
      refine take_at 1 (v := ?vv2) rfl (by kernel_rfl) (by kernel_rfl) (by kernel_rfl) (fun _ _ _ h => h) (Or.inl ⟨by rfl, ?hy2⟩) (by assumption) ?rest2
      case hy2 => intro w hSw; (try dsimp only at hSw); go_simp; (try with_reducible rfl)
      (try simp only [Act.put, List.setIfInBounds_toArray, List.set_cons_zero, List.set_cons_succ])
      refine take_at 2 (v := ?vv3) rfl (by kernel_rfl) (by kernel_rfl) (by kernel_rfl) (fun _ _ _ h => h) (Or.inl ⟨by rfl, ?hy3⟩) (by assumption) ?rest3
      case hy3 => intro w hSw; (try dsimp only at hSw); go_simp; (try with_reducible rfl)
      (try simp only [Act.put, List.setIfInBounds_toArray, List.set_cons_zero, List.set_cons_succ])
      refine take_at 3 rfl (by kernel_rfl) (by kernel_rfl) (by kernel_rfl) (fun _ _ _ h => h) (yieldsIf_load_mid (by rfl) _ _ rfl _ _ rfl _ _ (fun _ h => h.1) Try.underlying50 rfl HLW.out) (by assumption) ?_
      (try simp only [Act.put, List.setIfInBounds_toArray, List.set_cons_zero, List.set_cons_succ])
      refine take_at 4 (v := ?vv5) rfl (by kernel_rfl) (by kernel_rfl) (by kernel_rfl) (fun _ _ _ h => h) (Or.inl ⟨by rfl, ?hy5⟩) (by assumption) ?rest5
      case hy5 => intro w hSw; (try dsimp only at hSw); go_simp; (try with_reducible rfl)
      (try simp only [Act.put, List.setIfInBounds_toArray, List.set_cons_zero, List.set_cons_succ])
      refine take_at 5 (v := ?vv6) rfl (by kernel_rfl) (by kernel_rfl) (by kernel_rfl) (fun _ _ _ h => h) (Or.inl ⟨by rfl, ?hy6⟩) (by assumption) ?rest6
      case hy6 => intro w hSw; (try dsimp only at hSw); go_simp; (try with_reducible rfl)
      (try simp only [Act.put, List.setIfInBounds_toArray, List.set_cons_zero, List.set_cons_succ])
      refine take_at 6 (v := ?vv7) rfl (by kernel_rfl) (by kernel_rfl) (by kernel_rfl) (fun _ _ _ h => h) (Or.inl ⟨by rfl, ?hy7⟩) (by assumption) ?rest7
      case hy7 => intro w hSw; (try dsimp only at hSw); go_simp; (try with_reducible rfl)
      (try simp only [Act.put, List.setIfInBounds_toArray, List.set_cons_zero, List.set_cons_succ])
      refine take_at 7 rfl (by kernel_rfl) (by kernel_rfl) (by kernel_rfl) (fun _ _ _ h => h) (yieldsIf_load_mid (by rfl) _ _ rfl _ _ rfl _ _ (fun _ h => h.2) Try.underlying50 rfl HLW.out) (by assumption) ?_
      (try simp only [Act.put, List.setIfInBounds_toArray, List.set_cons_zero, List.set_cons_succ])
      refine take_at 8 (v := ?vv9) rfl (by kernel_rfl) (by kernel_rfl) (by kernel_rfl) (fun _ _ _ h => h) (Or.inl ⟨by rfl, ?hy9⟩) (by assumption) ?rest9
      case hy9 => intro w hSw; (try dsimp only at hSw); go_simp; (try with_reducible rfl)
      (try simp only [Act.put, List.setIfInBounds_toArray, List.set_cons_zero, List.set_cons_succ])
      refine wpAnyH_done (by kernel_rfl) ?_ _
      have HBD : Hid (Below w.heap.size w wr.drew) := Lib.hid (HB.out.drew)
      clear heq0
      have hkn2 := HKN.out
      go_wp2
      exact ⟨⟨k + 1, by omega, by go_num, HBD⟩, by simp [intOf] <;> omega⟩
    · obtain rfl : k = n := by omega
      go_wp2
      go_ret
      exact ⟨rfl, HB.out⟩
end Go.Proofs.Ytjdigncieoaglaa
