/- Layer 15, the law: what it wants of package batch; lives; Layer 15, the law: BatchTorn; Rows of words that grow; four results; Layer 15, the program: what tells one record from another: isMember, isCommit, isNext -/
import Derived.Test.YtcjflabipkppfaaBt3
import Derived.Test.YtcjflabipkppfaaBt11
import Derived.Test.YtcjflabipkppfaaBt14
import Derived.Test.YtcjflabipkppfaaBt25
set_option linter.unusedSimpArgs false
set_option linter.unusedVariables false
namespace Go.Proofs.Ytcjflabipkppfaa
set_option linter.unusedVariables false
open Go.RowKit Go.Lib

/-- what the statements want of package batch -/
def cbMakeOk : Prop := ∀ (p : Option Addr) (n c : Nat) (L : List Rx) (s : Int) (w : World), Gs encRc w p n L → (p = none → c = 0) → n ≤ c → (∀ x ∈ L, x.1.Fit w ∧ x.1.n ≤ 1048576) → n ≤ 1048576 → (framesN (rcL L) 0).length ≤ 2097152 → (0 ≤ s ∧ s < 18446744073709551616) →
    Calls Try.prog 6 #[.slice p n c, .int .u64 s] w fun e w' => ∃ v, e = .returned (.tuple #[v, .int .u64 (bmS (rcL L) s), .int .i64 (bmE (rcL L) s)]) ∧ Ob w' w.heap.size 5 v (bmB (rcL L) s) ∧ Below w.heap.size w w'
def cbSizeOk : Prop := ∀ (p : Option Addr) (n c : Nat) (L : List Rx) (w : World), Gs encRc w p n L → (p = none → c = 0) → n ≤ c → (∀ x ∈ L, x.1.Fit w ∧ x.1.n ≤ 1048576) → n ≤ 1048576 → (framesN (rcL L) 0).length ≤ 2097152 →
    Calls Try.prog 10 #[.slice p n c] w fun e w' => e = .returned (.int .i64 (bzN (rcL L))) ∧ Below w.heap.size w w'
/-- a word, plainly -/
def Wq.wd (x : Wq) : Wd := ⟨x.k, x.s, x.dg, numsOf x.nm, x.z, x.seg, x.off, x.len⟩
def BpQ (w : World) (zs : List Int) (a seg : Int) (e : Ending) (w' : World) : Prop :=
  ∃ (q : Option Addr) (n c : Nat) (L : List Wx), e = .returned (.tuple #[.slice q n c, .int .i64 (bpF zs a seg).e, .int .u64 (bpF zs a seg).s, .int .i64 (bpF zs a seg).err]) ∧ Gs encWd w' q n L ∧ (L.map fun x => x.1.wd) = (bpF zs a seg).ws ∧ (∀ x ∈ L, x.1.Ok) ∧ n ≤ c ∧ c ≤ maxLen ∧ (q = none → c = 0) ∧ Below w.heap.size w w'
def cbParseOk : Prop := ∀ (p : Option Addr) (len cap : Nat) (zs : List Int) (a seg : Int) (w : World), Bs w p len zs → (p = none → cap = 0) → len ≤ cap → cap ≤ maxLen → len ≤ 2097152 → (-9223372036854775808 ≤ a ∧ a ≤ 9223372036854775807) → (-9223372036854775808 ≤ seg ∧ seg ≤ 9223372036854775807) →
    Calls Try.prog 12 #[.slice p len cap, .int .i64 a, .int .i64 seg] w fun e w' => BpQ w zs a seg e w'

theorem wp_build_is {P : Program} {o : Oper} {a : Act} {w : World} {K : Act → World → Prop} {Q : Exit → Act → World → Prop} (t : TypeId) (parts : Array (Nat × Operand)) (ho : o.op = .build t parts) (cells : Array Value)
    (hf : P.built t (parts.map fun (i, x) => (i, a.eval x)).toList = some cells) (h : K (a.put o.dst (.agg cells)) w) : o.wp P a w K Q :=
  wp_build t parts ho (by rw [hf]; rfl) (by rw [hf]; exact h)
theorem infoRec : (Try.prog.info? 42).map (fun i => (i.zero, i.size)) = some (some (.agg (mixC rq0.a rq0.dg rq0.z)), 38) := by kernel_rfl
/-- '[]Record{x}': one record laid anew. -/
theorem wpList_build_rec {ops : Array Oper} {rest : List Oper} {o : Oper} {a : Act} {w : World} {Q : Exit → Act → World → Prop} (hg : o.guard = none) (t : TypeId) (x : Nat) (ho : o.op = .buildSlice t 1 #[(0, .tmp x)])
    (hu : Try.prog.underlying t = some (.slice 42)) (q : Rx) (hx : a.eval (.tmp x) = .agg (mixC q.1.a q.1.dg q.1.z))
    (h : wpList Try.prog ops Q rest (a.put o.dst (.slice (some ⟨w.heap.size, 0, none⟩) 1 1)) (w.alloc (.cells (mixC q.1.a q.1.dg q.1.z) 42))) : wpList Try.prog ops Q (o :: rest) a w := by
  obtain ⟨i, hi, hzz⟩ := Option.map_eq_some_iff.1 infoRec
  simp only [Prod.mk.injEq] at hzz
  obtain ⟨hz, hsz⟩ := hzz
  refine wpList_buildSlice hg t 42 1 _ ho (mixC q.1.a q.1.dg q.1.z) i _ hu hi hz (by rw [hsz]; decide) (by rw [hsz]; decide) ?_ h
  rw [hsz]
  have hf := Great.fill_whole (s := 38) (by decide) [.agg (mixC q.1.a q.1.dg q.1.z)] ((Array.range (1 * 38)).map ((Value.agg (mixC rq0.a rq0.dg rq0.z)).cells[· % (Value.agg (mixC rq0.a rq0.dg rq0.z)).cells.size]!)) (by
    intro v hv
    rw [List.mem_singleton] at hv
    subst hv
    show (mixC q.1.a q.1.dg q.1.z).size = 38
    exact q.1.size q.2) (by simp)
  have e : (#[(0, Operand.tmp x)].map fun (p : Nat × Operand) => (p.1, a.eval p.2)).toList = [((0 : Nat), Value.agg (mixC q.1.a q.1.dg q.1.z))] := by
    simp [hx]
  rw [e]
  refine (Eq.trans ?_ hf).trans ?_
  · rfl
  · simp [Value.cells]
theorem Gs.oneRec (w : World) (q : Rx) : Gs encRc (w.alloc (.cells (mixC q.1.a q.1.dg q.1.z) 42)) (some ⟨w.heap.size, 0, none⟩) 1 [q] := Gs.one encRc w q _ rfl _ _
theorem word_load {W : World} {b o : Nat} {x : Wx} (h : W.rangeAt b o (mixL x.1.a x.1.dg x.1.t)) : (Instr.loadAt 47 (.pointer (some ⟨b, o, none⟩))).run Try.prog W = .ok (.agg (mixC x.1.a x.1.dg x.1.t)) W :=
  run_loadAt_mid W b o 47 _ _ h Try.underlying47 rfl (by rw [mixL_length, x.2]; exact size39)
theorem Gs.word {W : World} {p : Option Addr} {n : Nat} {L : List Wx} (h : Gs encWd W p n L) (j : Nat) (hj : j < n) :
    ∃ b off x, p = some ⟨b, off, none⟩ ∧ L[j]? = some x ∧ x ∈ L ∧ W.rangeAt b (off + j * 39) (mixL x.1.a x.1.dg x.1.t) := by
  obtain ⟨b, off, hp, hc⟩ := h.ptr j hj
  have hl := h.len
  have hx : L[j]? = some (L[j]'(by omega)) := List.getElem?_eq_getElem _
  have e : L.getD j encWd.d = L[j]'(by omega) := by rw [List.getD_eq_getElem?_getD, hx]; rfl
  rw [e] at hc
  exact ⟨b, off, _, hp, hx, List.getElem_mem _, fun i v hv => hc i v hv⟩
theorem Wq.wd_inj {x y : Wq} (h : x.wd = y.wd) : x = y := by
  obtain ⟨k, s, dg, nm, z, seg, off, len⟩ := x
  obtain ⟨k', s', dg', nm', z', seg', off', len'⟩ := y
  unfold Wq.wd at h
  simp only [Wd.mk.injEq] at h
  obtain ⟨rfl, rfl, rfl, h4, rfl, rfl, rfl, rfl⟩ := h
  obtain rfl := numsOf_inj h4
  rfl

theorem wordQ_wd {x : Rq} {w : World} (h : x.Fit w) (seg off len : Int) : (wordQ x seg off len).wd = wordN x.rc seg off len := by
  have hn := h.bs.len
  unfold wordQ wordN Wq.wd Rq.rc
  dsimp only
  split
  · rfl
  · simp only [Wd.mk.injEq, true_and, and_true]
    refine ⟨?_, ?_⟩
    · split <;> rfl
    · rw [hn]

def dgD : List Int := 7 :: List.replicate 31 0
theorem dgD_ok : dok dgD := ⟨rfl, fun j => by
  cases j with
  | zero => simp [dgD]
  | succ j =>
    have h := bytes_replicate 31 j
    simpa [dgD] using h⟩
def xD : Rx := ⟨⟨5, 0, dgD, ⟨#[]⟩, none, 0, 0, [], 0, 0⟩, rfl⟩
theorem xD_fit (w : World) : xD.1.Fit w := ⟨Bs.empty _ _, fun _ => rfl, Nat.le_refl _, Nat.zero_le _, dgD_ok, by decide, by decide, by decide, by decide, by decide⟩
theorem xD_right : rightN xD.1.rc = 0 := by
  unfold rightN Rq.rc xD
  simp
theorem xD_wrong : wrongN (rcL [xD]) = 0 := by
  have h := xD_right
  unfold wrongN rcL
  simp only [List.map_cons, List.map_nil, kindsN, firstN, List.all_cons, List.all_nil, h]
  simp [xD, Rq.rc]
theorem xD_len (s : Int) : (makeN (xD.1.rc.num s)).length = 53 := by
  rw [makeN_len (show rightN (xD.1.rc.num s) = 0 from xD_right)]
  unfold dataN Rq.rc xD Rc.num
  simp [dgD]
theorem xD_frames (s : Int) : (framesN (rcL [xD]) s).length = 53 := by
  simp only [rcL, List.map_cons, List.map_nil, framesN, List.length_append, List.length_nil]
  rw [xD_len]
theorem commit_len {s n z : Int} (hn : 0 ≤ n ∧ n < 4294967296) (hz : 0 ≤ z ∧ z < 4294967296) : (makeN (commitN s n z)).length = 29 := by
  rw [makeN_len (commit_right hn hz)]
  unfold dataN commitN
  simp [putN_length]
theorem xD_bat (s : Int) : (batN (rcL [xD]) s).length = 82 := by
  have h1 : (rcL [xD]).length = 1 := rfl
  unfold batN
  rw [List.length_append, xD_frames, h1, commit_len (by omega) (by omega)]
theorem xD_make : bmE (rcL [xD]) 5 = 0 ∧ bmS (rcL [xD]) 5 = 7 ∧ (bmB (rcL [xD]) 5).length = 82 ∧ bzN (rcL [xD]) = 82 ∧ bmB (rcL [xD]) 5 = batN (rcL [xD]) 5 := by
  have h1 : (rcL [xD]).length = 1 := rfl
  have hE : bmE (rcL [xD]) 5 = 0 := by
    unfold bmE
    rw [if_neg (by rw [xD_wrong]; simp), h1, if_neg (by omega)]
  have hB : bmB (rcL [xD]) 5 = batN (rcL [xD]) 5 := by unfold bmB; rw [if_pos hE]
  refine ⟨hE, ?_, by rw [hB, xD_bat], ?_, hB⟩
  · unfold bmS
    rw [if_pos hE, h1]
    rfl
  · unfold bzN
    rw [if_pos xD_wrong, xD_bat]
    rfl
def wD : Wq := ⟨5, 5, dgD, ⟨#[]⟩, 0, 3, 0, 53⟩
theorem wDC : mixC wD.a wD.dg wD.t = #[.int .i64 5, .int .u64 5, .int .u8 7, .int .u8 0, .int .u8 0, .int .u8 0, .int .u8 0, .int .u8 0, .int .u8 0, .int .u8 0, .int .u8 0, .int .u8 0, .int .u8 0, .int .u8 0, .int .u8 0, .int .u8 0, .int .u8 0, .int .u8 0, .int .u8 0, .int .u8 0, .int .u8 0, .int .u8 0, .int .u8 0, .int .u8 0, .int .u8 0, .int .u8 0, .int .u8 0, .int .u8 0, .int .u8 0, .int .u8 0, .int .u8 0, .int .u8 0, .int .u8 0, .int .u8 0, .string ⟨#[]⟩, .int .i64 0, .int .i64 3, .int .i64 0, .int .i64 53] := rfl
theorem xD_parse : bpF (bmB (rcL [xD]) 5) 0 3 = ⟨[wD.wd], 82, 6, 0⟩ := by
  have h := bat_back (l := rcL [xD]) (s := 5) (rcL_ok fun x hx => by
    rw [List.mem_singleton] at hx
    subst hx
    exact xD_fit default) xD_wrong (by omega) (by show (5 : Int) + ((1 : Nat) : Int) + 1 ≤ _; omega) (by rw [xD_frames]; omega) (by show 1 < _; omega) [] [] 3
  rw [List.nil_append, List.append_nil, xD_bat] at h
  rw [xD_make.2.2.2.2]
  have h0 : (([] : List Int).length : Int) = 0 := rfl
  rw [h0] at h
  rw [h]
  have hw : wordsN (rcL [xD]) 5 3 0 = [wD.wd] := by
    simp only [rcL, List.map_cons, List.map_nil, wordsN, xD_len]
    rfl
  rw [hw]
  rfl

set_option maxRecDepth 100000 in
set_option maxHeartbeats 4000000 in
theorem lives15_any (hM : cbMakeOk) (hS : cbSizeOk) (hP : cbParseOk) (w : World) : Calls Try.prog 11 #[] w fun e w' => e = .returned (.bool true) ∧ Below w.heap.size w w' := by
  obtain ⟨wA, hA⟩ : ∃ W, w.alloc (.cells (mixC xD.1.a xD.1.dg xD.1.z) 42) = W := ⟨_, rfl⟩
  have HG : Hid (Gs encRc wA (some ⟨w.heap.size, 0, none⟩) 1 [xD]) := Lib.hid (by rw [← hA]; exact Gs.oneRec w xD)
  have HBA : Hid (Below w.heap.size w wA) := Lib.hid (by rw [← hA]; exact (Below.refl _ _).alloc (Nat.le_refl _) _)
  have hx1 : ∀ W, ∀ x ∈ [xD], x.1.Fit W ∧ x.1.n ≤ 1048576 := fun W x hx => by
    rw [List.mem_singleton] at hx
    subst hx
    exact ⟨xD_fit W, Nat.zero_le _⟩
  have HM := Lib.hid (hM (some ⟨w.heap.size, 0, none⟩) 1 1 [xD] 5 wA HG.out (fun h => by cases h) (Nat.le_refl _) (hx1 wA) (by omega) (by rw [xD_frames]; omega) (by omega))
  have HS := Lib.hid fun W (hW : Below wA.heap.size wA W) => hS (some ⟨w.heap.size, 0, none⟩) 1 1 [xD] W (HG.out.later hW) (fun h => by cases h) (Nat.le_refl _) (hx1 W) (by omega) (by rw [xD_frames]; omega)
  obtain ⟨e1, e2, e3, e4, _⟩ := xD_make
  have e5 := xD_parse
  rw [e1, e2] at HM
  rw [e4] at HS
  obtain ⟨F, hF⟩ : ∃ F, bmB (rcL [xD]) 5 = F := ⟨_, rfl⟩
  rw [hF] at HM e3 e5
  have HFL := Lib.hid e3
  have HBP := Lib.hid e5
  have HP := Lib.hid fun (p : Option Addr) (cap : Nat) W (hW : Bs W p 82 F) (h1 : p = none → cap = 0) (h2 : 82 ≤ cap) (h3 : cap ≤ maxLen) => hP p 82 cap F 0 3 W hW h1 h2 h3 (by omega) (by omega) (by omega)
  unfold BpQ at HP
  rw [HBP.out] at HP
  clear hM hS hP e1 e2 e3 e4 e5 hF hx1
  go_enter Try.func11, Try.ntmps11
  go_upto_region 2 with (first
    | (refine wpList_build_is rfl 40 _ rfl (bcs dgD) ?_ ?_; kernel_rfl)
    | (refine wpList_build_is rfl 42 _ rfl (mixC xD.1.a xD.1.dg xD.1.z) ?_ ?_; kernel_rfl)
    | (refine wpList_build_rec rfl _ _ rfl Try.underlying22 xD rfl ?_))
  try rw [hA]
  go_upto_region 3 with (go_at_call 6; refine HM.out.mono ?_; rintro e w1 ⟨v1, rfl, ho1, hb1⟩; obtain ⟨p1, c1, hv1, hlc1, hcm1, hbs1, hpc1⟩ := ho1.open; rw [HFL.out] at hv1 hlc1 hbs1; subst hv1; have HB1 := Lib.hid hb1; have HS1 := Lib.hid hbs1; have HC1 := Lib.hid (And.intro hpc1 (And.intro hlc1 hcm1)); clear ho1 hb1 hbs1 hpc1 hlc1 hcm1)
  go_wp2_with fail
  refine (HP.out p1 c1 _ HS1.out HC1.out.1 HC1.out.2.1 HC1.out.2.2).mono ?_
  rintro e w2 ⟨q2, n2, c2, L2, rfl, hg2, hl2, hk2, _, _, _, hb2⟩
  obtain ⟨x2, rfl⟩ : ∃ x, L2 = [x] := List.length_eq_one_iff.1 (by have hq := congrArg List.length hl2; simpa using hq)
  obtain rfl : n2 = 1 := hg2.len.symm
  have HX2 : Hid (x2.1 = wD) := Lib.hid (Wq.wd_inj (by simpa using hl2))
  have HO2 := Lib.hid (hk2 x2 (by simp))
  obtain ⟨b2, o2, y2, rfl, hy2, _, hr2⟩ := hg2.word 0 (by omega)
  obtain rfl : y2 = x2 := by simpa using hy2.symm
  have HR2 := Lib.hid hr2
  have HB2 := Lib.hid (below_step HB1.out hb2)
  clear hg2 hl2 hk2 hy2 hr2 hb2
  go_upto_region 4 with fail
  have HLW := Lib.hid fun W (hW : Below w2.heap.size w2 W) => word_load (range_later HR2.out hW)
  obtain ⟨Q, hQ⟩ : ∃ Q, wD = Q := ⟨_, rfl⟩
  have HQ := Lib.hid hQ
  have HWV := HX2.out
  have hok := HO2.out
  rw [HWV, hQ] at HLW hok
  have heq : ∀ W, (Op.equalIn 10000 47 (.agg (mixC Q.a Q.dg Q.t)) (.agg #[.int .i64 5, .int .u64 5, .int .u8 7, .int .u8 0, .int .u8 0, .int .u8 0, .int .u8 0, .int .u8 0, .int .u8 0, .int .u8 0, .int .u8 0, .int .u8 0, .int .u8 0, .int .u8 0, .int .u8 0, .int .u8 0, .int .u8 0, .int .u8 0, .int .u8 0, .int .u8 0, .int .u8 0, .int .u8 0, .int .u8 0, .int .u8 0, .int .u8 0, .int .u8 0, .int .u8 0, .int .u8 0, .int .u8 0, .int .u8 0, .int .u8 0, .int .u8 0, .int .u8 0, .int .u8 0, .string ⟨#[]⟩, .int .i64 0, .int .i64 3, .int .i64 0, .int .i64 53])).run Try.prog W = .ok true W := fun W => by
    have h := word_eq hok W
    have e : mixC Q.a Q.dg Q.t = #[.int .i64 5, .int .u64 5, .int .u8 7, .int .u8 0, .int .u8 0, .int .u8 0, .int .u8 0, .int .u8 0, .int .u8 0, .int .u8 0, .int .u8 0, .int .u8 0, .int .u8 0, .int .u8 0, .int .u8 0, .int .u8 0, .int .u8 0, .int .u8 0, .int .u8 0, .int .u8 0, .int .u8 0, .int .u8 0, .int .u8 0, .int .u8 0, .int .u8 0, .int .u8 0, .int .u8 0, .int .u8 0, .int .u8 0, .int .u8 0, .int .u8 0, .int .u8 0, .int .u8 0, .int .u8 0, .string ⟨#[]⟩, .int .i64 0, .int .i64 3, .int .i64 0, .int .i64 53] := by rw [← hQ]; exact wDC
    rw [e] at h ⊢
    exact h
  clear hok HWV hQ
  go_wp2_with (first
    | (go_at_call 10; refine (HS.out _ HB2.out).mono ?_; rintro e w3 ⟨rfl, hb3⟩; have HC3 := Lib.hid hb3; have HB3 := Lib.hid (below_step HB2.out hb3); clear hb3)
    | (refine wpList_wanted (by rfl) fun K hK => wp_ld 47 _ rfl _ rfl _ (HLW.out _ HC3.out) (hK _ _ ?_); clear hK K)
    | (refine wpList_wanted (by rfl) fun K hK => wp_build_is 40 _ rfl (bcs dgD) ?_ (hK _ _ ?_); focus kernel_rfl; clear hK K)
    | (refine wpList_wanted (by rfl) fun K hK => wp_build_is 47 _ rfl (mixC Q.a Q.dg Q.t) ?_ (hK _ _ ?_); focus (rw [← HQ.out]; kernel_rfl); clear hK K))
  go_ret
  exact ⟨rfl, below_step HBA.out HB3.out⟩
end Go.Proofs.Ytcjflabipkppfaa

namespace Go.Proofs.Ytcjflabipkppfaa
set_option linter.unusedVariables false
open Go.RowKit Go.Lib

theorem bmE_zero {l : List Rc} {s : Int} (h : bmE l s = 0) : wrongN l = 0 ∧ s + l.length + 1 ≤ 18446744073709551615 := by
  unfold bmE at h
  by_cases hw : wrongN l = 0
  · rw [if_neg (by rw [hw]; simp)] at h
    refine ⟨hw, ?_⟩
    by_cases ho : s + l.length + 1 > 18446744073709551615
    · rw [if_pos ho] at h; omega
    · omega
  · rw [if_pos hw] at h
    exact absurd h hw
theorem bpF_torn {l : List Rc} {s : Int} (hok : ∀ r ∈ l, r.Ok) (hE : bmE l s = 0) (h0 : 0 ≤ s) (hf : (framesN l 0).length ≤ 2097152) (hn : l.length ≤ 1048576) (seg : Int) (m : Nat) (hm : m < (bmB l s).length) :
    ∃ e, e ≠ 0 ∧ bpF ((bmB l s).take m) 0 seg = bpNo e := by
  obtain ⟨hw, h1⟩ := bmE_zero hE
  have hB : bmB l s = batN l s := by unfold bmB; rw [if_pos hE]
  rw [hB] at hm ⊢
  have ht := bat_torn hok hw h0 h1 (by rw [framesN_length l s 0]; omega) (by omega) seg m hm
  refine ⟨_, ht, ?_⟩
  have hh := bpGo_err (f := ((batN l s).take m).length + 1) (zs := (batN l s).take m) (seg := seg) (from_ := 0) (at_ := 0) (out := []) ht
  unfold bpF
  unfold bpNo
  generalize bpGo (((batN l s).take m).length + 1) ((batN l s).take m) seg 0 0 [] = b at *
  obtain ⟨ws, e, s', err⟩ := b
  simp only at hh
  obtain ⟨rfl, rfl, rfl⟩ := hh
  rfl

set_option maxRecDepth 100000 in
set_option maxHeartbeats 4000000 in
theorem battorn_any (hM : cbMakeOk) (hS : cbSizeOk) (hP : cbParseOk) (p : Option Addr) (n c : Nat) (L : List Rx) (s m : Int) (w : World) (h : Gs encRc w p n L) (hpc : p = none → c = 0) (hnc : n ≤ c) (hf : ∀ x ∈ L, x.1.Fit w ∧ x.1.n ≤ 1048576) (hn : n ≤ 1048576) (hfr : (framesN (rcL L) 0).length ≤ 2097000) (hs : 0 ≤ s ∧ s < 18446744073709551616) (hm : -9223372036854775808 ≤ m ∧ m ≤ 9223372036854775807) :
    Calls Try.prog 5 #[.slice p n c, .int .u64 s, .int .i64 m] w fun e w' => e = .returned (.bool true) ∧ Below w.heap.size w w' := by
  have hl : (rcL L).length = n := by rw [rcL_length, h.len]
  have HM := Lib.hid (hM p n c L s w h hpc hnc hf hn (by omega) hs)
  have HLV := Lib.hid fun W => lives15_any hM hS hP W
  have HT := Lib.hid fun hE j hj => bpF_torn (rcL_ok fun x hx => (hf x hx).1) hE hs.1 (by omega) (by rw [hl]; exact hn) 1 j hj
  have HP := Lib.hid fun (q : Option Addr) (len cap : Nat) zs W => hP q len cap zs 0 1 W
  have HBL : Hid ((bmB (rcL L) s).length ≤ 2097152) := Lib.hid (by
    unfold bmB
    split
    · unfold batN
      rw [List.length_append, framesN_length (rcL L) s 0, commit_len (by omega) (by omega)]
      omega
    · simp)
  generalize bmE (rcL L) s = E at *
  generalize bmS (rcL L) s = NS at *
  obtain ⟨F, hF⟩ : ∃ F, bmB (rcL L) s = F := ⟨_, rfl⟩
  rw [hF] at HM HT HBL
  obtain ⟨k, hk⟩ : ∃ k, F.length = k := ⟨_, rfl⟩
  have HKN := Lib.hid hk
  rw [hk] at HBL HT
  have hkb := HBL.out
  clear h hf hM hS hP hpc hnc hn hfr hl hF hk
  by_cases hz : E = 0
  · subst hz
    by_cases h0 : m < 0
    · go_enter Try.func5, Try.ntmps5
      go_wp2_with (first
        | (go_at_call 6; refine HM.out.mono ?_; rintro e w1 ⟨v1, rfl, ho1, hb1⟩; have HB1 := Lib.hid hb1; obtain ⟨p1, c1, hv1, hlc1, hcm1, hbs1, hpc1⟩ := ho1.open; rw [HKN.out] at hv1 hlc1 hbs1; subst hv1; clear ho1 hb1 hbs1 hpc1 hlc1 hcm1)
        | (go_at_call 11; refine (HLV.out _).mono ?_; rintro e w7 ⟨rfl, hb7⟩; have HB7 := Lib.hid (below_step HB1.out hb7); clear hb7))
      go_ret
      exact ⟨rfl, HB7.out⟩
    by_cases hge : m ≥ (k : Int)
    · go_enter Try.func5, Try.ntmps5
      go_wp2_with (first
        | (go_at_call 6; refine HM.out.mono ?_; rintro e w1 ⟨v1, rfl, ho1, hb1⟩; have HB1 := Lib.hid hb1; obtain ⟨p1, c1, hv1, hlc1, hcm1, hbs1, hpc1⟩ := ho1.open; rw [HKN.out] at hv1 hlc1 hbs1; subst hv1; clear ho1 hb1 hbs1 hpc1 hlc1 hcm1)
        | (go_at_call 11; refine (HLV.out _).mono ?_; rintro e w7 ⟨rfl, hb7⟩; have HB7 := Lib.hid (below_step HB1.out hb7); clear hb7))
      go_ret
      exact ⟨rfl, HB7.out⟩
    · obtain ⟨j, rfl⟩ := Int.eq_ofNat_of_zero_le (show 0 ≤ m by omega)
      have hjk : j < k := by omega
      obtain ⟨e0, he0, hbp⟩ := HT.out (by first | rfl | trivial) j hjk
      have HE0 := Lib.hid he0
      have HBP := Lib.hid hbp
      clear hbp he0 HT
      go_enter Try.func5, Try.ntmps5
      go_upto_region 4 with (go_at_call 6; refine HM.out.mono ?_; rintro e w1 ⟨v1, rfl, ho1, hb1⟩; have HB1 := Lib.hid hb1; have HO1 := Lib.hid ho1; clear ho1 hb1; obtain ⟨p1, c1, hv1, hlc1, hcm1, hbs1, hpc1⟩ := HO1.out.open; rw [HKN.out] at hv1 hlc1 hbs1; subst hv1)
      obtain ⟨pt, hst, hbt, hpt⟩ := hbs1.slice_to (P := Try.prog) 24 5 Try.underlying24 (fun _ => by kernel_rfl) c1 j hlc1 (by omega)
      have HPX := Lib.hid (HP.out pt j c1 (F.take j) w1 hbt (hpt hpc1) (by omega) hcm1 (by omega) (by omega) (by omega))
      unfold BpQ at HPX
      rw [HBP.out] at HPX
      unfold bpNo at HPX
      dsimp only at HPX
      have HNE : Hid ((e0 != 0) = true) := Lib.hid (by simpa using HE0.out)
      clear hbt hpt hbs1 hpc1
      have hne := HNE.out
      go_wp2_with (first
        | (go_at_call 12; refine HPX.out.mono ?_; rintro e w2 ⟨q2, n2, c2, L2, rfl, hg2, hl2, _, _, _, _, hb2⟩; obtain rfl : L2 = [] := by { have hq := congrArg List.length hl2; exact List.length_eq_zero_iff.1 (by simpa using hq) }; obtain rfl : n2 = 0 := hg2.len.symm; have HB2 := Lib.hid (below_step HB1.out hb2); clear hg2 hl2 hb2)
        | (go_at_call 11; refine (HLV.out _).mono ?_; rintro e w7 ⟨rfl, hb7⟩; have HB7 := Lib.hid (below_step HB2.out hb7); clear hb7))
      go_ret
      exact ⟨rfl, HB7.out⟩
  · have hne : (E != 0) = true := by simpa using hz
    go_enter Try.func5, Try.ntmps5
    go_wp2_with (first
      | (go_at_call 6; refine HM.out.mono ?_; rintro e w1 ⟨v1, rfl, ho1, hb1⟩; have HB1 := Lib.hid hb1; obtain ⟨p1, c1, hv1, hlc1, hcm1, hbs1, hpc1⟩ := ho1.open; rw [HKN.out] at hv1 hlc1 hbs1; subst hv1; clear ho1 hb1 hbs1 hpc1 hlc1 hcm1)
      | (go_at_call 11; refine (HLV.out _).mono ?_; rintro e w7 ⟨rfl, hb7⟩; have HB7 := Lib.hid (below_step HB1.out hb7); clear hb7))
    go_ret
    exact ⟨rfl, HB7.out⟩
end Go.Proofs.Ytcjflabipkppfaa

namespace Go.Proofs.Ytcjflabipkppfaa
set_option linter.unusedVariables false
open Go.RowKit Go.Lib

theorem results_tmp4 {fn : Func} {t u v x : Tmp} (h : fn.results = #[.tmp t, .tmp u, .tmp v, .tmp x]) (tmps : Array Value) (P : Program) (w : World) :
    (results fn tmps).run P w = .ok (.tuple #[tmps.getD t undef, tmps.getD u undef, tmps.getD v undef, tmps.getD x undef]) w := by
  simp [results, h]
def wzero : Value := .agg (mixC wq0.a wq0.dg wq0.t)
theorem infoWd : (Try.prog.info? encWd.t).map (fun i => (i.zero, i.size, i.bytes)) = some (some wzero, encWd.k, 96) := by kernel_rfl
theorem wzero_size : wzero.cells.size = encWd.k := by kernel_rfl
/-- '[]Word{x}': one word laid anew. -/
theorem wpList_build_wd {ops : Array Oper} {rest : List Oper} {o : Oper} {a : Act} {w : World} {Q : Exit → Act → World → Prop} (hg : o.guard = none) (t : TypeId) (x : Nat) (ho : o.op = .buildSlice t 1 #[(0, .tmp x)])
    (hu : Try.prog.underlying t = some (.slice 47)) (q : Wx) (hx : a.eval (.tmp x) = .agg (mixC q.1.a q.1.dg q.1.t))
    (h : wpList Try.prog ops Q rest (a.put o.dst (.slice (some ⟨w.heap.size, 0, none⟩) 1 1)) (w.alloc (.cells (mixC q.1.a q.1.dg q.1.t) 47))) : wpList Try.prog ops Q (o :: rest) a w := by
  obtain ⟨i, hi, hzz⟩ := Option.map_eq_some_iff.1 infoWd
  simp only [Prod.mk.injEq] at hzz
  obtain ⟨hz, hsz, _⟩ := hzz
  have hsz' : i.size = 39 := hsz
  refine wpList_buildSlice hg t 47 1 _ ho (mixC q.1.a q.1.dg q.1.t) i _ hu hi hz (by rw [hsz']; decide) (by rw [hsz']; decide) ?_ h
  rw [hsz']
  have hf := Great.fill_whole (s := 39) (by decide) [.agg (mixC q.1.a q.1.dg q.1.t)] ((Array.range (1 * 39)).map (wzero.cells[· % wzero.cells.size]!)) (by
    intro v hv
    rw [List.mem_singleton] at hv
    subst hv
    show (mixC q.1.a q.1.dg q.1.t).size = 39
    exact q.1.size q.2) (by simp)
  have e : (#[(0, Operand.tmp x)].map fun (p : Nat × Operand) => (p.1, a.eval p.2)).toList = [((0 : Nat), Value.agg (mixC q.1.a q.1.dg q.1.t))] := by
    simp [hx]
  rw [e]
  refine (Eq.trans ?_ hf).trans ?_
  · rfl
  · simp [Value.cells]
theorem Gs.oneWd (w : World) (q : Wx) : Gs encWd (w.alloc (.cells (mixC q.1.a q.1.dg q.1.t) 47)) (some ⟨w.heap.size, 0, none⟩) 1 [q] := Gs.one encWd w q _ rfl _ _
/-- what the words of a row are -/
def wdL (L : List Wx) : List Wd := L.map fun x => x.1.wd
theorem wdL_append (L M : List Wx) : wdL (L ++ M) = wdL L ++ wdL M := List.map_append
theorem wdL_length (L : List Wx) : (wdL L).length = L.length := List.length_map _
/-- the last word's number -/
theorem Gw.lastS {W : World} {B : Nat} {v : Value} {L : List Wx} (h : Gw encWd W B v L) (hn : L ≠ []) :
    ∃ g c, v = .slice (some ⟨g, 0, none⟩) L.length c ∧ W.cell? ⟨g, (L.length - 1) * 39 + 1, none⟩ = some (.int .u64 (lastS (wdL L))) := by
  obtain ⟨M, x, rfl⟩ : ∃ M x, L = M ++ [x] := ⟨_, _, (List.dropLast_concat_getLast hn).symm⟩
  obtain ⟨p, c, hv, h1, h2, h3, h4⟩ := h.open
  subst hv
  obtain ⟨g, rfl⟩ := h.ptr (by simp)
  refine ⟨g, c, rfl, ?_⟩
  have hl : (M ++ [x]).length = M.length + 1 := by simp
  obtain ⟨b, off, y, hp, hy, _, hr⟩ := h.gs.word M.length (by rw [hl]; omega)
  simp only [Option.some.injEq, Addr.mk.injEq, and_true] at hp
  obtain ⟨rfl, rfl⟩ := hp
  rw [List.getElem?_append_right (Nat.le_refl _), Nat.sub_self] at hy
  obtain rfl : x = y := by simpa using hy
  rw [wdL_append, show wdL [x] = [x.1.wd] from rfl, lastS_append, hl, Nat.add_sub_cancel]
  have := hr 1 (.int .u64 x.1.s) rfl
  rw [Nat.zero_add] at this
  exact this
theorem BpQ.of {w w' : World} {zs : List Int} {a seg : Int} {b : Bp} (hb : bpF zs a seg = b) (q : Option Addr) (n c : Nat) (L : List Wx) (hg : Gs encWd w' q n L) (hl : wdL L = b.ws) (hk : ∀ x ∈ L, x.1.Ok) (hnc : n ≤ c) (hcm : c ≤ maxLen) (hpc : q = none → c = 0) (hw : Below w.heap.size w w') {v1 v2 v3 : Int} (h1 : v1 = b.e) (h2 : v2 = b.s) (h3 : v3 = b.err) :
    BpQ w zs a seg (.returned (.tuple #[.slice q n c, .int .i64 v1, .int .u64 v2, .int .i64 v3])) w' := by
  subst hb h1 h2 h3
  exact ⟨q, n, c, L, rfl, hg, hl, hk, hnc, hcm, hpc, hw⟩
theorem BpQ.no {w w' : World} {zs : List Int} {a seg : Int} {err : Int} (hb : bpF zs a seg = bpNo err) (hw : Below w.heap.size w w') {v3 : Int} (h3 : v3 = err) :
    BpQ w zs a seg (.returned (.tuple #[.slice none 0 0, .int .i64 0, .int .u64 0, .int .i64 v3])) w' :=
  BpQ.of hb none 0 0 [] (Gs.empty _ _ _) rfl (fun x hx => by cases hx) (Nat.le_refl _) (Nat.zero_le _) (fun _ => rfl) hw rfl rfl h3
end Go.Proofs.Ytcjflabipkppfaa

namespace Go.Proofs.Ytcjflabipkppfaa
set_option linter.unusedVariables false
open Go.RowKit Go.Lib

/-- is it of a kind that stands ahead of a commit? -/
def memB (k : Int) : Bool := decide (1 ≤ k ∧ k ≤ 5)
set_option maxRecDepth 100000 in
set_option maxHeartbeats 1000000 in
theorem isMember_any (x : Rq) (w : World) (hd : x.dg.length = 32) : Calls Try.prog 24 #[.agg (mixC x.a x.dg x.z)] w fun e w' => e = .returned (.bool (memB x.k)) ∧ Below w.heap.size w w' := by
  obtain ⟨wA, hA, _, hb, c0, _⟩ := box_rec w x hd
  have HB := Lib.hid hb
  obtain ⟨R, hR⟩ : ∃ R, memB x.k = R := ⟨_, rfl⟩
  rw [hR]
  have HR : Hid (R = memB x.k) := Lib.hid hR.symm
  clear hR hb hd
  unfold memB at HR
  obtain ⟨k, s, dg, nm, p, n, c, da, N, Z⟩ := x
  dsimp only at *
  generalize mixC _ _ _ = M at *
  by_cases h : k < 1 ∨ k > 5
  · replace HR : Hid (R = false) := Lib.hid (by rw [HR.out]; exact decide_eq_false (by omega))
    have n1 : (k == 1) = false := by simp; omega
    have n2 : (k == 2) = false := by simp; omega
    have n3 : (k == 3) = false := by simp; omega
    have n4 : (k == 4) = false := by simp; omega
    have n5 : (k == 5) = false := by simp; omega
    clear h
    go_enter Try.func24, Try.ntmps24
    go_wp2
    go_ret
    exact ⟨by rw [HR.out]; rfl, HB.out⟩
  · replace HR : Hid (R = true) := Lib.hid (by rw [HR.out]; exact decide_eq_true (by omega))
    have hk : k = 1 ∨ k = 2 ∨ k = 3 ∨ k = 4 ∨ k = 5 := by omega
    clear h
    rcases hk with rfl | rfl | rfl | rfl | rfl
    all_goals (go_enter Try.func24, Try.ntmps24)
    all_goals go_wp2
    all_goals go_ret
    all_goals exact ⟨by rw [HR.out]; rfl, HB.out⟩
/-- is it the commit of n records, whose frames have z bytes? -/
def cmtB (k N Z n z : Int) : Bool := decide (k = 6 ∧ n > 0 ∧ N = n ∧ Z = z)
set_option maxRecDepth 100000 in
set_option maxHeartbeats 1000000 in
theorem isCommit_any (x : Rq) (n z : Int) (w : World) (hd : x.dg.length = 32) : Calls Try.prog 26 #[.agg (mixC x.a x.dg x.z), .int .i64 n, .int .i64 z] w fun e w' => e = .returned (.bool (cmtB x.k x.N x.Z n z)) ∧ Below w.heap.size w w' := by
  obtain ⟨wA, hA, _, hb, c0, _, _, _, c36, c37⟩ := box_rec w x hd
  have HB := Lib.hid hb
  obtain ⟨R, hR⟩ : ∃ R, cmtB x.k x.N x.Z n z = R := ⟨_, rfl⟩
  rw [hR]
  have HR : Hid (R = cmtB x.k x.N x.Z n z) := Lib.hid hR.symm
  clear hR hb hd
  unfold cmtB at HR
  obtain ⟨k, s, dg, nm, p, m, c, da, N, Z⟩ := x
  dsimp only at *
  generalize mixC _ _ _ = M at *
  by_cases h1 : k = 6
  · have d1 : (k == 6) = true := by simpa using h1
    by_cases h2 : n > 0
    · have d2 : decide (n > 0) = true := decide_eq_true h2
      have d2' : decide (0 < n) = true := decide_eq_true h2
      by_cases h3 : N = n
      · have d3 : (N == n) = true := by simpa using h3
        by_cases h4 : Z = z
        · have d4 : (Z == z) = true := by simpa using h4
          replace HR : Hid (R = true) := Lib.hid (by rw [HR.out]; exact decide_eq_true ⟨h1, h2, h3, h4⟩)
          clear h1 h3 h4
          go_enter Try.func26, Try.ntmps26
          go_wp2
          go_ret
          exact ⟨by rw [HR.out]; rfl, HB.out⟩
        · have d4 : (Z == z) = false := by simpa using h4
          replace HR : Hid (R = false) := Lib.hid (by rw [HR.out]; exact decide_eq_false fun h => h4 h.2.2.2)
          clear h1 h3 h4
          go_enter Try.func26, Try.ntmps26
          go_wp2
          go_ret
          exact ⟨by rw [HR.out]; rfl, HB.out⟩
      · have d3 : (N == n) = false := by simpa using h3
        replace HR : Hid (R = false) := Lib.hid (by rw [HR.out]; exact decide_eq_false fun h => h3 h.2.2.1)
        clear h1 h3
        go_enter Try.func26, Try.ntmps26
        go_wp2
        go_ret
        exact ⟨by rw [HR.out]; rfl, HB.out⟩
    · have d2 : decide (n > 0) = false := decide_eq_false h2
      have d2' : decide (0 < n) = false := decide_eq_false h2
      replace HR : Hid (R = false) := Lib.hid (by rw [HR.out]; exact decide_eq_false fun h => h2 h.2.1)
      clear h1
      go_enter Try.func26, Try.ntmps26
      go_wp2
      go_ret
      exact ⟨by rw [HR.out]; rfl, HB.out⟩
  · have d1 : (k == 6) = false := by simpa using h1
    replace HR : Hid (R = false) := Lib.hid (by rw [HR.out]; exact decide_eq_false fun h => h1 h.1)
    clear h1
    go_enter Try.func26, Try.ntmps26
    go_wp2
    go_ret
    exact ⟨by rw [HR.out]; rfl, HB.out⟩
/-- may this number stand behind these words? -/
def nextB (ws : List Wd) (s : Int) : Bool := decide (ws = [] ∨ (s > lastS ws ∧ s - lastS ws = 1))
theorem Gs.lastS {W : World} {p : Option Addr} {n m : Nat} {L : List Wx} (h : Gs encWd W p n L) (hn : n = m + 1) : ∃ b off, p = some ⟨b, off, none⟩ ∧ W.cell? ⟨b, off + m * 39 + 1, none⟩ = some (.int .u64 (lastS (wdL L))) := by
  subst hn
  obtain ⟨b, off, y, hp, hy, _, hr⟩ := h.word m (by omega)
  have hl := h.len
  have hne : L ≠ [] := fun e => by subst e; simp at hl
  obtain ⟨M, x, rfl⟩ : ∃ M x, L = M ++ [x] := ⟨_, _, (List.dropLast_concat_getLast hne).symm⟩
  have hm : M.length = m := by simpa using hl
  subst hm
  rw [List.getElem?_append_right (Nat.le_refl _), Nat.sub_self] at hy
  obtain rfl : x = y := by simpa using hy
  rw [wdL_append, show wdL [x] = [x.1.wd] from rfl, lastS_append]
  exact ⟨b, off, hp, hr 1 (.int .u64 x.1.s) rfl⟩
theorem lastS_ok {L : List Wx} (h : ∀ x ∈ L, x.1.Ok) : 0 ≤ lastS (wdL L) ∧ lastS (wdL L) < 18446744073709551616 := by
  by_cases hne : L = []
  · subst hne
    show (0 : Int) ≤ 0 ∧ (0 : Int) < _
    omega
  · obtain ⟨M, x, rfl⟩ : ∃ M x, L = M ++ [x] := ⟨_, _, (List.dropLast_concat_getLast hne).symm⟩
    rw [wdL_append, show wdL [x] = [x.1.wd] from rfl, lastS_append]
    exact (h x (by simp)).s
set_option maxRecDepth 100000 in
set_option maxHeartbeats 1000000 in
theorem isNext_any (p : Option Addr) (n c : Nat) (L : List Wx) (s : Int) (w : World) (h : Gs encWd w p n L) (hk : ∀ x ∈ L, x.1.Ok) (hs : 0 ≤ s ∧ s < 18446744073709551616) (hn : n ≤ 2097152) :
    Calls Try.prog 23 #[.slice p n c, .int .u64 s] w fun e w' => e = .returned (.bool (nextB (wdL L) s)) ∧ w = w' := by
  have HL := Lib.hid h.len
  obtain ⟨R, hR⟩ : ∃ R, nextB (wdL L) s = R := ⟨_, rfl⟩
  rw [hR]
  have HR : Hid (R = nextB (wdL L) s) := Lib.hid hR.symm
  clear hR
  unfold nextB at HR
  obtain ⟨hl0, hl1⟩ := lastS_ok hk
  by_cases h0 : n = 0
  · subst h0
    have hLe : L = [] := List.length_eq_zero_iff.1 HL.out
    replace HR : Hid (R = true) := Lib.hid (by rw [HR.out, hLe]; exact decide_eq_true (Or.inl rfl))
    clear hLe h hk hl0 hl1
    go_enter Try.func23, Try.ntmps23
    go_wp2
    go_ret
    exact ⟨by rw [HR.out]; rfl, rfl⟩
  obtain ⟨m, hm⟩ : ∃ m, n = m + 1 := ⟨n - 1, by omega⟩
  obtain ⟨b, off, rfl, hc⟩ := h.lastS hm
  have hLn : ¬ wdL L = [] := fun e => h0 (by rw [← HL.out, ← wdL_length, e]; rfl)
  have HLN := Lib.hid hLn
  obtain ⟨last, hlast⟩ : ∃ z, lastS (wdL L) = z := ⟨_, rfl⟩
  rw [hlast] at hc HR hl0 hl1
  have hne : ((n : Int) == 0) = false := by simpa using h0
  have hix : (n : Int) - 1 = (m : Int) := by omega
  have hmn : (m : Int) < (n : Int) := by omega
  clear h hk hm hlast h0 hLn
  by_cases h1 : s > last
  · have d1 : decide (s > last) = true := decide_eq_true h1
    have d1' : decide (last < s) = true := decide_eq_true h1
    obtain ⟨D, hD⟩ : ∃ D, IntKind.u64.wrap (s - last) = D := ⟨_, rfl⟩
    have HD : Hid (D = s - last) := Lib.hid (by rw [← hD]; exact wrap_u64_in (by omega) (by omega))
    by_cases h2 : D = 1
    · have d2 : (D == 1) = true := by simpa using h2
      replace HR : Hid (R = true) := Lib.hid (by rw [HR.out]; exact decide_eq_true (Or.inr ⟨h1, by rw [← HD.out]; exact h2⟩))
      clear h1 h2
      go_enter Try.func23, Try.ntmps23
      go_wp2
      go_ret
      exact ⟨by rw [HR.out]; rfl, rfl⟩
    · have d2 : (D == 1) = false := by simpa using h2
      replace HR : Hid (R = false) := Lib.hid (by
        rw [HR.out]
        refine decide_eq_false ?_
        rintro (h | h)
        · exact HLN.out h
        · exact h2 (by rw [HD.out]; exact h.2))
      clear h1 h2
      go_enter Try.func23, Try.ntmps23
      go_wp2
      go_ret
      exact ⟨by rw [HR.out]; rfl, rfl⟩
  · have d1 : decide (s > last) = false := decide_eq_false h1
    have d1' : decide (last < s) = false := decide_eq_false h1
    replace HR : Hid (R = false) := Lib.hid (by
      rw [HR.out]
      refine decide_eq_false ?_
      rintro (h | h)
      · exact HLN.out h
      · exact h1 h.1)
    clear h1
    go_enter Try.func23, Try.ntmps23
    go_wp2
    go_ret
    exact ⟨by rw [HR.out]; rfl, rfl⟩
end Go.Proofs.Ytcjflabipkppfaa
