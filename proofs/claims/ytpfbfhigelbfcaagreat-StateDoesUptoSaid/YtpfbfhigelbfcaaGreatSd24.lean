/- Layer 22, the program: kindOf, live. (gen_stzl.py) -/
import Derived.Test.YtpfbfhigelbfcaaGreatSd20
import Derived.Test.YtpfbfhigelbfcaaGreatSd22
import Derived.Test.YtpfbfhigelbfcaaGreatSd23
set_option linter.unusedSimpArgs false
set_option linter.unusedVariables false
namespace Go.Proofs.YtpfbfhigelbfcaaGreat
open Go.RowKit Go.Lib
variable {Ix : World → (Nat → Prop) → (Nat → Prop) → Value → List Pe → Prop} {Tx : World → (Nat → Prop) → (Nat → Prop) → Value → List Pt → Prop}
theorem Gw.ownTy {α : Type} {E : Ec α} {w : World} {B : Nat} {v : Value} {L : List α} (h : Gw E w B v L) {b : Nat} (hb : v.ownBlock = some b) {cs : Array Value} {t : TypeId} {fr : Nat × Nat} (hc : w.heap[b]? = some (.cells cs t fr)) : t = E.t := by
 rcases h.2 with ⟨hv, _⟩ | ⟨g, cap, cur, hv, _, hg, _⟩
 ·rw [hv] at hb; cases hb
 ·rw [hv] at hb
  have h1 : g = b := by simpa [Value.ownBlock] using hb
  subst h1
  rw [hg] at hc
  simp only [Option.some.injEq, Obj.cells.injEq] at hc
  exact hc.2.1.symm
/-- '[]Word{x}', at one operation -/
theorem wp_build_wd {o : Oper} {a : Act} {w : World} {K : Act → World → Prop} {Q : Exit → Act → World → Prop} (t : TypeId) (x : Nat) (ho : o.op = .buildSlice t 1 #[(0, .tmp x)])
 (hu : Tryz.prog.underlying t = some (.slice 39)) (q : Wx) (hx : a.eval (.tmp x) = .agg (mixC q.1.a q.1.dg q.1.t))
 (h : K (a.put o.dst (.slice (some ⟨w.heap.size, 0, none⟩) 1 1)) (w.alloc (.cells (mixC q.1.a q.1.dg q.1.t) 39))) : o.wp Tryz.prog a w K Q := by
 obtain ⟨i, hi, hzz⟩ := Option.map_eq_some_iff.1 infoWd
 simp only [Prod.mk.injEq] at hzz
 obtain ⟨hz, hsz, _⟩ := hzz
 have hsz' : i.size = 39 := hsz
 refine wp_buildSlice t 39 1 _ ho (mixC q.1.a q.1.dg q.1.t) i _ hu hi hz (by rw [hsz']; decide) (by rw [hsz']; decide) ?_ h
 rw [hsz']
 have hf := Great.fill_whole (s := 39) (by decide) [.agg (mixC q.1.a q.1.dg q.1.t)] ((Array.range (1 * 39)).map (wzero.cells[· % wzero.cells.size]!)) (by
  intro v hv
  rw [List.mem_singleton] at hv
  subst hv
  show (mixC q.1.a q.1.dg q.1.t).size = 39
  exact q.1.size q.2) (by simp)
 have e : (#[(0, Operand.tmp x)].map fun (p : Nat × Operand) => (p.1, a.eval p.2)).toList = [((0 : Nat), Value.agg (mixC q.1.a q.1.dg q.1.t))] := by
  simp [hx]
 rw [e]
 refine (Eq.trans ?_ hf).trans ?_
 ·rfl
 ·simp [Value.cells]
/-- amid live's loops: what lies in blocks of N stands as it did -/
structure LvI (B : Nat) (N : Nat → Prop) (w wr W : World) (ws : List Wq) (v : Value) (o : List Wx) : Prop where
 gw : Gw encWd W B v o
 eq : wxL o = ws
 le : Below B w W
 same : ∀ b, N b → W.heap[b]? = wr.heap[b]?
 own : ∀ b, v.ownBlock = some b → ¬ N b
 nl : ∀ b, N b → b < wr.heap.size
 sz : wr.heap.size ≤ W.heap.size
 bs : B ≤ wr.heap.size
theorem LvI.later {B : Nat} {N : Nat → Prop} {w wr W V : World} {ws : List Wq} {v : Value} {o : List Wx} (h : LvI B N w wr W ws v o) (hb : Below W.heap.size W V) : LvI B N w wr V ws v o :=
 ⟨h.gw.later hb, h.eq, h.le.trans (hb.mono (Nat.le_trans h.bs h.sz)), fun b hN => (hb.block b (Nat.lt_of_lt_of_le (h.nl b hN) h.sz)).trans (h.same b hN), h.own, h.nl, Nat.le_trans h.sz hb.size, h.bs⟩
theorem LvI.app {B : Nat} {N : Nat → Prop} {w wr W V : World} {ws : List Wq} {v u : Value} {o : List Wx} {q : Wx} (h : LvI B N w wr W ws v o) (hg : Gw encWd V B u (o ++ [q])) (hr : W.grownBy V v.ownBlock) (hu : ∀ b, u.ownBlock = some b → v.ownBlock = some b ∨ W.heap.size ≤ b) : LvI B N w wr V (ws ++ [q.1]) u (o ++ [q]) := by
 refine ⟨hg, by rw [← h.eq]; unfold wxL; rw [List.map_append]; rfl, h.le.grown hr (Nat.le_trans h.bs h.sz) (fun k hk => (Gw.own_lt h.gw hk).1), fun b hN => (hr.block b (Nat.lt_of_lt_of_le (h.nl b hN) h.sz) (fun e => h.own b e.symm hN)).trans (h.same b hN), fun b hb hN => ?_, h.nl, Nat.le_trans h.sz hr.size, h.bs⟩
 rcases hu b hb with e | e
 ·exact h.own b e hN
 ·have := h.nl b hN
  have := h.sz
  omega
theorem LvI.len {B : Nat} {N : Nat → Prop} {w wr W : World} {ws : List Wq} {v : Value} {o : List Wx} (h : LvI B N w wr W ws v o) : o.length = ws.length := by rw [← h.eq, wxL_length]
set_option maxRecDepth 100000 in
set_option maxHeartbeats 1000000 in
theorem kindof_any (e : Pt) (s : Value) (w : World) (hd : e.dg.length = 32) : Calls Tryz.prog 94 #[tnV e s] w fun r w' => r = .returned (.int .i64 (if e.gone then 4 else 3)) ∧ Below w.heap.size w w' := by
 obtain ⟨w0, hw0⟩ : ∃ W, w.alloc (.cells (tnC e s) 64) = W := ⟨_, rfl⟩
 have hb : Below w.heap.size w w0 := by rw [← hw0]; exact (Below.refl _ _).alloc (Nat.le_refl _) _
 have hm : Tn w0 w.heap.size e s := by rw [← hw0]; exact heap_alloc_new _ _
 have HB := Lib.hid hb
 have c0 := (Tn.cells hm hd).2.1
 obtain ⟨M, hM⟩ : ∃ M, tnC e s = M := ⟨_, rfl⟩
 unfold tnV
 rw [hM] at hw0 ⊢
 obtain ⟨b, hbb⟩ : ∃ b, e.gone = b := ⟨_, rfl⟩
 rw [hbb] at c0 ⊢
 clear hb hm hM hbb
 go_enter Tryz.func94, Tryz.ntmps94
 cases b with
 | false =>
   go_wp2
   go_ret
   exact ⟨rfl, HB.out⟩
 | true =>
   go_wp2
   go_ret
   exact ⟨rfl, HB.out⟩
set_option maxRecDepth 100000 in
set_option maxHeartbeats 8000000 in
theorem zlive_any (hI : IdxOk Ix) (hT : TagOk Tx) {w : World} {B M n : Nat} {vi vt : Value} {SI FI ST FT : Nat → Prop} {x : Ps} (h : Sz0 Ix Tx w B M n vi vt SI FI ST FT x) (hf : x.Few) :
 Calls Tryz.prog 56 #[.pointer (some ⟨B, 0, none⟩)] w fun e w' => ∃ v o, e = .returned v ∧ Gw encWd w' w.heap.size v o ∧ wxL o = zwL x ∧ Below w.heap.size w w' := by
 have HRW := Lib.hid (hI.row h.i (by have := hf.n; omega))
 have HRT := Lib.hid fun W (hW : Below w.heap.size w W) => hT.row (h.later hI hT hW).t (by have := hf.n; omega)
 have HC := Lib.hid fun W (hW : Below w.heap.size w W) => (h.later hI hT hW).h.cells
 have HFL := Lib.hid fun b (hb : FI b ∨ FT b) => hb.elim (fun e => hI.lt h.i b (Or.inr e)) (fun e => hT.lt h.t b (Or.inr e))
 have HFW := Lib.hid hf
 obtain ⟨c0, c1, c2⟩ := h.h.cells
 clear h hI hT hf
 go_enter Tryz.func56, Tryz.ntmps56
 go_wp2_with (go_at_call 54; refine HRW.out.mono ?_; rintro ex w1 ⟨p, m, c, Ls, N, rfl, hpl, hr, hn, _, _, _, hb⟩; have HPL := Lib.hid hpl; have HR := Lib.hid hr; have HN := Lib.hid hn; have HB1 := Lib.hid hb; clear hpl hr hn hb)
 have HLN : Hid (Ls.length = m) := Lib.hid HR.out.gs.len
 have HXL : Hid (x.D.length = m) := Lib.hid (by rw [← HPL.out, peL_length, HLN.out])
 have HMM : Hid (m ≤ 1048576) := Lib.hid (by have h1 := HFW.out.n; have h2 := HXL.out; omega)
 have HI0 : Hid (LvI w.heap.size N w w1 w1 (zwE (x.D.take 0)) (.slice none 0 0) []) := Lib.hid ⟨Gw.nil _ _ _, rfl, HB1.out, fun b _ => rfl, fun b hb => (by cases hb), HR.out.lt, Nat.le_refl _, HB1.out.size⟩
 clear c0 c1 c2
 have hmm := HMM.out
 go_loopw [3, 14] (fun v j wr => ∃ (k : Nat) (t : Option Addr) (a c' : Nat) (o : List Wx), k ≤ m ∧ j = .int .i64 (k : Int) ∧ v = .slice t a c' ∧ Hid (LvI w.heap.size N w w1 wr (zwE (x.D.take k)) (.slice t a c') o)) (fun _ j _ => m - (intZ j).toNat)
 case atStart => exact ⟨0, none, 0, 0, [], by omega, rfl, rfl, HI0⟩
 case round =>
  clear HI0
  obtain ⟨k, t, a, c', o, hkn, rfl, rfl, HI⟩ := hrel
  by_cases hlt : k < m
  ·as_aux_lemma =>
   have HRR := Lib.hid (HR.out.hold HI.out.same HI.out.sz)
   obtain ⟨b1, off, y, rfl, hy1, hy3, hr⟩ := HRR.out.gs.en k hlt
   have HLY := Lib.hid (en_load hr)
   have HYG : Hid (x.D[k]? = some y.e) := Lib.hid (by rw [← HPL.out]; exact peL_get hy1)
   have HT := Lib.hid (zwE_step HYG.out)
   have HYI := Lib.hid (HRR.out.is y hy3)
   have HYD := Lib.hid (HRR.out.dk y hy3)
   have HYB : Hid (y.e.ins.length ≤ 2097152) := Lib.hid (Nat.le_trans (HFW.out.i _ (List.mem_of_getElem? HYG.out)) (by decide))
   have HOL : Hid (o.length + 1 ≤ 2097216) := Lib.hid (by have h1 := zwE_len (x.D.take k); rw [List.length_take] at h1; rw [HI.out.len]; have := HMM.out; omega)
   have hki : (k : Int) < (m : Int) := by omega
   have hk0 : (0 : Int) ≤ (k : Int) := by omega
   clear hr hy1 hy3 HRR
   obtain ⟨MY, hMY⟩ : ∃ M, enC y.e y.s = M := ⟨_, rfl⟩
   rw [hMY] at HLY
   go_upto_region 5 with (first
    | (refine wpList_ld rfl 59 _ rfl _ rfl _ HLY.out ?_)
    | (rw [← hMY]; refine wpList_store_row rfl 59 _ _ rfl wr.heap.size (enC y.e y.s) rfl rfl 59 _ (heap_alloc_new _ _) (enC_sizeOf y.e y.s y.hd) ((enC_size zeroE _ rfl).trans (enC_size y.e y.s y.hd).symm) (enC_one _ _ _ _) ?_; generalize hv3 : World.setRow _ _ _ = w3))
   obtain ⟨he3, hb3⟩ := enC_lay rfl hv3
   obtain ⟨g3, hg3⟩ : ∃ g, wr.heap.size = g := ⟨_, rfl⟩
   rw [hg3] at he3
   rw [hg3]
   have HI3 := Lib.hid (HI.out.later hb3)
   have HE3 := Lib.hid he3
   have HY3 := Lib.hid (HYI.out.later hb3)
   clear he3 hb3 hv3 hg3 hMY
   have HAL := Lib.hid (palive_any y.e y.s w3 HY3.out HYD.out HYB.out)
   have HLX := Lib.hid (HE3.out.load y.hd)
   unfold enV at HAL
   obtain ⟨al, hal⟩ : ∃ b, aliveB (decide (y.e.k = 5)) y.e.ins y.e.seg = b := ⟨_, rfl⟩
   rw [hal] at HAL
   have HAE : Hid (zaE y.e = al) := Lib.hid hal
   obtain ⟨MX, hMX⟩ : ∃ M, enC y.e y.s = M := ⟨_, rfl⟩
   rw [hMX] at HLX HAL
   clear hal hMX
   cases al with
   | false =>
     have HWE : Hid (zwE (x.D.take (k + 1)) = zwE (x.D.take k)) := Lib.hid (by rw [HT.out, HAE.out]; rfl)
     go_wp2_with (first
      | (refine wpList_ld rfl 59 _ rfl _ rfl _ HLX.out ?_)
      | (go_at_call 92; refine HAL.out.mono ?_; rintro ex w4 ⟨rfl, hb4⟩; have HI4 := Lib.hid (HI3.out.later hb4); clear hb4))
     exact ⟨⟨k + 1, _, _, _, _, by omega, by go_num, rfl, by rw [HWE.out]; exact HI4⟩, by simp [intZ] <;> omega⟩
   | true =>
     have HWE : Hid (zwE (x.D.take (k + 1)) = zwE (x.D.take k) ++ [wordE y.e]) := Lib.hid (by rw [HT.out, HAE.out]; rfl)
     have HBU := Lib.hid (built_wdE y.e y.hd)
     obtain ⟨Q, hQ⟩ : ∃ Q : Wx, Q = ⟨wordE y.e, y.hd⟩ := ⟨_, rfl⟩
     have HQ : Hid (Q.1 = wordE y.e) := Lib.hid (by rw [hQ])
     rw [← HQ.out] at HBU
     clear hQ
     obtain ⟨MW, hMW⟩ : ∃ M, mixC Q.1.a Q.1.dg Q.1.t = M := ⟨_, rfl⟩
     have HMW := Lib.hid hMW
     rw [hMW] at HBU
     clear hMW
     go_upto_region 6 with (first
      | (refine wpList_ld rfl 59 _ rfl _ rfl _ HLX.out ?_)
      | (go_at_call 92; refine HAL.out.mono ?_; rintro ex w4 ⟨rfl, hb4⟩; have HI4 := Lib.hid (HI3.out.later hb4); have HE4 : Hid (Em w4 g3 y.e y.s) := Lib.hid (Mx.later HE3.out hb4); clear hb4))
     obtain ⟨y0, y1, y2, y3⟩ := HE4.out.cells y.hd
     have HLD3 := Lib.hid (HE4.out.dig y.hd)
     have HLC3 := Lib.hid (HE4.out.loc y.hd)
     go_wp2_with (first
      | (refine wpList_ld rfl 35 _ rfl _ rfl _ HLD3.out ?_)
      | (refine wpList_ld rfl 37 _ rfl _ rfl _ HLC3.out ?_)
      | (refine wpList_build_is rfl 39 _ rfl MW ?_ ?_; focus (first | exact HBU.out | (simp; exact HBU.out)))
      | (refine wpList_build_wd rfl 50 29 rfl Tryz.underlying50 Q (by rw [HMW.out]; rfl) ?_; have HI5 : Hid (LvI w.heap.size N w w1 (w4.alloc (.cells (mixC Q.1.a Q.1.dg Q.1.t) 39)) (zwE (x.D.take k)) (.slice t a c') o) := Lib.hid (HI4.out.later ((Below.refl _ _).alloc (Nat.le_refl _) _)); have HN5 := Lib.hid (Gs.oneWd w4 Q); rw [HMW.out] at HI5 HN5; rw [HMW.out])
      | (refine wpList_append_fr encWd rfl _ _ 50 rfl Tryz.underlying50 wzero 96 infoWd wzero_size (by decide) w.heap.size _ _ rfl HI5.out.gw _ 1 1 [Q] rfl HN5.out (fun h => by cases h) HOL.out HI5.out.le.size ?_; intro v8 w8 ho8 hg8 hf8; have HI8 := Lib.hid (HI5.out.app ho8 hg8 hf8); obtain ⟨p8, c8, hv8, _⟩ := ho8.open; obtain ⟨m8, hm8⟩ : ∃ z, List.length (o ++ [Q]) = z := ⟨_, rfl⟩; rw [hm8] at hv8; subst hv8; clear ho8 hg8 hf8 hm8))
     exact ⟨⟨k + 1, _, _, _, _, by omega, by go_num, rfl, by rw [HWE.out, ← HQ.out]; exact HI8⟩, by simp [intZ] <;> omega⟩
  ·as_aux_lemma =>
   obtain rfl : k = m := by omega
   have HTK : Hid (x.D.take k = x.D) := Lib.hid (List.take_of_length_le (by rw [HXL.out]; exact Nat.le_refl _))
   rw [HTK.out] at HI
   have HRT2 := Lib.hid (HRT.out wr HI.out.le)
   obtain ⟨z0, z1, z2⟩ := HC.out wr HI.out.le
   clear hlt
   go_wp2_with (go_at_call 55; refine HRT2.out.mono ?_; rintro ex w2 ⟨p2, m2, c2, Ts, N2, rfl, hpl, hr, hn, _, _, _, hb⟩; have HPL2 := Lib.hid hpl; have HR2 := Lib.hid hr; have HN2 := Lib.hid hn; have HB2 := Lib.hid hb; clear hpl hr hn hb)
   have HLN2 : Hid (Ts.length = m2) := Lib.hid HR2.out.gs.len
   have HXL2 : Hid (x.T.length = m2) := Lib.hid (by rw [← HPL2.out, ptL_length, HLN2.out])
   have HMM2 : Hid (k + m2 ≤ 1048576) := Lib.hid (by have h1 := HFW.out.n; have h2 := HXL.out; have h3 := HXL2.out; omega)
   have HWE : Hid ((zwE x.D).length ≤ k) := Lib.hid (by rw [← HXL.out]; exact zwE_len _)
   have HJ0 : Hid (LvI w.heap.size N2 w w2 w2 (zwE x.D ++ zwT (x.T.take 0)) (.slice t a c') o) := Lib.hid (by
    rw [show zwT (x.T.take 0) = [] from rfl, List.append_nil]
    refine ⟨HI.out.gw.later HB2.out, HI.out.eq, HI.out.le.trans (HB2.out.mono HI.out.le.size), fun b _ => rfl, fun b hb hN => ?_, HR2.out.lt, Nat.le_refl _, Nat.le_trans HI.out.le.size HB2.out.size⟩
    have h1 := Gw.own_lt HI.out.gw hb
    rcases HN2.out b hN with h2 | h2
    ·have := HFL.out b (Or.inr h2); omega
    ·omega)
   have hmm2 : m2 ≤ 1048576 := by have := HMM2.out; omega
   clear HI HRW HRT HRT2 HTK HR HN HPL HB1 HLN z0 z1 z2
   go_loopw [3, 39] (fun v j wr => ∃ (i : Nat) (t : Option Addr) (a c' : Nat) (o : List Wx), i ≤ m2 ∧ j = .int .i64 (i : Int) ∧ v = .slice t a c' ∧ Hid (LvI w.heap.size N2 w w2 wr (zwE x.D ++ zwT (x.T.take i)) (.slice t a c') o)) (fun _ j _ => m2 - (intZ j).toNat)
   case atStart => exact ⟨0, t, a, c', o, by omega, rfl, rfl, HJ0⟩
   case round =>
    clear HJ0
    obtain ⟨i, t, a, c', o, hin, rfl, rfl, HI⟩ := hrel
    by_cases hlt : i < m2
    ·as_aux_lemma =>
     have HRR := Lib.hid (HR2.out.hold HI.out.same HI.out.sz)
     obtain ⟨b1, off, y, rfl, hy1, hy3, hr⟩ := HRR.out.gs.tn i hlt
     have HLY := Lib.hid (tn_load hr)
     have HYG : Hid (x.T[i]? = some y.e) := Lib.hid (by rw [← HPL2.out]; exact ptL_get hy1)
     have HT := Lib.hid (zwT_step HYG.out)
     have HYI := Lib.hid (HRR.out.is y hy3)
     have HYD := Lib.hid (HRR.out.dk y hy3)
     have HYB : Hid (y.e.ins.length ≤ 2097152) := Lib.hid (Nat.le_trans (HFW.out.j _ (List.mem_of_getElem? HYG.out)) (by decide))
     have HOL : Hid (o.length + 1 ≤ 2097216) := Lib.hid (by have h1 := zwT_len (x.T.take i); rw [List.length_take] at h1; rw [HI.out.len, List.length_append]; have := HWE.out; have := HMM2.out; omega)
     have hki : (i : Int) < (m2 : Int) := by omega
     have hk0 : (0 : Int) ≤ (i : Int) := by omega
     clear hr hy1 hy3 HRR
     obtain ⟨MY, hMY⟩ : ∃ M, tnC y.e y.s = M := ⟨_, rfl⟩
     rw [hMY] at HLY
     go_upto_region 11 with (first
      | (refine wpList_ld rfl 64 _ rfl _ rfl _ HLY.out ?_)
      | (rw [← hMY]; refine wpList_store_row rfl 64 _ _ rfl wr.heap.size (tnC y.e y.s) rfl rfl 64 _ (heap_alloc_new _ _) (tnC_sizeOf y.e y.s y.hd) ((tnC_size zeroT _ rfl).trans (tnC_size y.e y.s y.hd).symm) (tnC_one _ _ _ _) ?_; generalize hv3 : World.setRow _ _ _ = w3))
     obtain ⟨he3, hb3⟩ := tnC_lay rfl hv3
     obtain ⟨g3, hg3⟩ : ∃ g, wr.heap.size = g := ⟨_, rfl⟩
     rw [hg3] at he3
     rw [hg3]
     have HI3 := Lib.hid (HI.out.later hb3)
     have HE3 := Lib.hid he3
     have HY3 := Lib.hid (HYI.out.later hb3)
     clear he3 hb3 hv3 hg3 hMY
     have HAL := Lib.hid (palivet_any y.e y.s w3 HY3.out HYD.out HYB.out)
     have HLX := Lib.hid (HE3.out.load y.hd)
     unfold tnV at HAL
     obtain ⟨al, hal⟩ : ∃ b, aliveB y.e.gone y.e.ins y.e.seg = b := ⟨_, rfl⟩
     rw [hal] at HAL
     have HAE : Hid (zaT y.e = al) := Lib.hid hal
     obtain ⟨MX, hMX⟩ : ∃ M, tnC y.e y.s = M := ⟨_, rfl⟩
     have HMX := Lib.hid hMX
     rw [hMX] at HLX HAL
     clear hal hMX
     cases al with
     | false =>
       have HWT : Hid (zwT (x.T.take (i + 1)) = zwT (x.T.take i)) := Lib.hid (by rw [HT.out, HAE.out]; rfl)
       go_wp2_with (first
        | (refine wpList_ld rfl 64 _ rfl _ rfl _ HLX.out ?_)
        | (go_at_call 93; refine HAL.out.mono ?_; rintro ex w4 ⟨rfl, hb4⟩; have HI4 := Lib.hid (HI3.out.later hb4); clear hb4))
       exact ⟨⟨i + 1, _, _, _, _, by omega, by go_num, rfl, by rw [HWT.out]; exact HI4⟩, by simp [intZ] <;> omega⟩
     | true =>
       have HWT : Hid (zwE x.D ++ zwT (x.T.take (i + 1)) = (zwE x.D ++ zwT (x.T.take i)) ++ [wordT y.e]) := Lib.hid (by rw [HT.out, HAE.out]; simp)
       have HBU := Lib.hid (built_wdN y.e y.hd)
       obtain ⟨Q, hQ⟩ : ∃ Q : Wx, Q = ⟨wordT y.e, y.hd⟩ := ⟨_, rfl⟩
       have HQ : Hid (Q.1 = wordT y.e) := Lib.hid (by rw [hQ])
       rw [← HQ.out] at HBU
       clear hQ
       obtain ⟨MW, hMW⟩ : ∃ M, mixC Q.1.a Q.1.dg Q.1.t = M := ⟨_, rfl⟩
       have HMW := Lib.hid hMW
       rw [hMW] at HBU
       clear hMW
       go_upto_region 12 with (first
        | (refine wpList_ld rfl 64 _ rfl _ rfl _ HLX.out ?_)
        | (go_at_call 93; refine HAL.out.mono ?_; rintro ex w4 ⟨rfl, hb4⟩; have HI4 := Lib.hid (HI3.out.later hb4); have HE4 : Hid (Tn w4 g3 y.e y.s) := Lib.hid (Mx.later HE3.out hb4); clear hb4))
       have HLB : Hid (∀ W, Tn W g3 y.e y.s → (Instr.loadAt 64 (.pointer (some ⟨g3, 0, none⟩))).run Tryz.prog W = .ok (.agg MX) W) := Lib.hid fun W hW => by rw [← HMX.out]; exact hW.load y.hd
       have HKD := Lib.hid (kindof_any y.e y.s)
       unfold tnV at HKD
       rw [HMX.out] at HKD
       have HYH := Lib.hid y.hd
       have HSS : Hid (∀ W, Tn W g3 y.e y.s → (W.cell? ⟨g3, 0, none⟩ = some (.string y.e.nm) ∧ Tn W g3 y.e y.s)) := Lib.hid fun W hW => ⟨(hW.cells HYH.out).1, hW⟩
       refine wp_region_held_drew (S := (fun W : World => W.cell? ⟨g3, 0, none⟩ = some (.string y.e.nm) ∧ Tn W g3 y.e y.s)) (by kernel_rfl) (HSS.out _ (Mx.later HE4.out (Below.refl _ _).drew)) (fun hHeld => ?_)
       refine tk 0 rfl ?_;(try simp only [PT])
       refine tkL 1 rfl (yieldsIf_ld (by rfl) 64 (.tmp 7) rfl (.pointer (some ⟨g3, 0, none⟩)) rfl (.agg MX) (fun W hW => HLB.out W hW.2)) ?_
       (try simp only [PT])
       refine tk 3 rfl ?_;(try simp only [PT])
       refine tkL 4 rfl (yieldsIf_ld (by rfl) 35 (.tmp 48) rfl (.pointer (some ⟨g3, 1, none⟩)) rfl (.agg (bcs y.e.dg)) (fun W hW => hW.2.dig HYH.out)) ?_
       (try simp only [PT])
       refine tk 5 rfl ?_;(try simp only [PT]);refine tk 6 rfl ?_;(try simp only [PT]);refine tk 7 rfl ?_;(try simp only [PT])
       refine tkL 8 rfl (yieldsIf_ld (by rfl) 37 (.tmp 52) rfl (.pointer (some ⟨g3, 34, none⟩)) rfl (.agg (lcA y.e.seg y.e.off y.e.len)) (fun W hW => hW.2.loc HYH.out)) ?_
       (try simp only [PT])
       refine ready_at 2 rfl (by kernel_rfl) (fun K hK => ?_)
       go_simp
       refine (HKD.out _ HYH.out).mono ?_
       rintro ex w5 ⟨rfl, hb⟩
       have HE5 : Hid (Tn w5 g3 y.e y.s) := Lib.hid (Mx.later (Mx.later HE4.out (Below.refl _ _).drew) hb)
       have HI5 := Lib.hid ((HI4.out.later (Below.refl _ _).drew).later hb)
       clear hb hHeld
       (try dsimp only)
       first
        | refine hK.out _ _ ?hS9 (fun hHeld => ?rest9)
        | (go_wp2_with fail; refine hK.out _ _ ?hS9 (fun hHeld => ?rest9))
       case hS9 => exact HSS.out _ HE5.out
       clear hK K
       (try simp only [PT])
       refine tkL 9 rfl (yieldsIf_build (by rfl) 39 #[(0, .tmp 47), (2, .tmp 49), (3, .tmp 51), (5, .tmp 53)] rfl MW (by first | exact HBU.out | (simp only [List.map_toArray, List.map_cons, List.map_nil]; exact HBU.out))) ?_
       (try simp only [PT])
       refine ready_at 10 rfl (by kernel_rfl) (fun K hK => ?_)
       rw [if_pos (by rfl)]
       refine wp_build_wd 50 54 rfl Tryz.underlying50 Q (by rw [HMW.out]; rfl) ?_
       have HE6 : Hid (Tn (w5.alloc (.cells (mixC Q.1.a Q.1.dg Q.1.t) 39)) g3 y.e y.s) := Lib.hid (Mx.later HE5.out ((Below.refl _ _).alloc (Nat.le_refl _) _))
       have HI6 := Lib.hid (HI5.out.later ((Below.refl _ _).alloc (Nat.le_refl _) (.cells (mixC Q.1.a Q.1.dg Q.1.t) 39)))
       have HN6 := Lib.hid (Gs.oneWd w5 Q)
       rw [HMW.out] at HE6 HI6 HN6
       rw [HMW.out]
       refine hK.out _ _ ?hS11 (fun hHeld => ?rest11)
       case hS11 => exact HSS.out _ HE6.out
       clear hK K
       (try simp only [PT])
       refine ready_at 11 rfl (by kernel_rfl) (fun K hK => ?_)
       rw [if_pos (by rfl)]
       refine wp_append_fr encWd (.tmp 45) (.tmp 55) 50 rfl Tryz.underlying50 wzero 96 infoWd wzero_size (by decide) w.heap.size _ _ rfl HI6.out.gw _ 1 1 [Q] rfl HN6.out (fun h => by cases h) HOL.out HI6.out.le.size ?_
       intro v8 w8 ho8 hg8 hf8
       have HI8 := Lib.hid (HI6.out.app ho8 hg8 hf8)
       have HE8 : Hid (Tn w8 g3 y.e y.s) := Lib.hid ((hg8.block g3 (Mx.lt HE6.out) (fun e => absurd (HI6.out.gw.ownTy e.symm HE6.out) (by decide))).trans HE6.out)
       obtain ⟨p8, c8, hv8, _⟩ := ho8.open
       obtain ⟨m8, hm8⟩ : ∃ z, List.length (o ++ [Q]) = z := ⟨_, rfl⟩
       rw [hm8] at hv8
       subst hv8
       clear ho8 hg8 hf8 hm8
       refine hK.out _ _ ?hS12 (fun hHeld => ?rest12)
       case hS12 => exact HSS.out _ HE8.out
       clear hK K
       (try simp only [PT])
       refine tk 12 rfl ?_;(try simp only [PT])
       refine wpAnyH_done (by kernel_rfl) ?_ _
       go_wp2
       exact ⟨⟨i + 1, _, _, _, _, by omega, by go_num, rfl, by rw [HWT.out, ← HQ.out]; exact HI8⟩, by simp [intZ] <;> omega⟩
    ·have hi2 : i = m2 := by omega
     have HTK : Hid (x.T.take i = x.T) := Lib.hid (List.take_of_length_le (by rw [HXL2.out, hi2]; exact Nat.le_refl _))
     rw [HTK.out] at HI
     subst hi2
     go_wp2
     go_ret
     exact ⟨_, o, rfl, HI.out.gw, HI.out.eq, HI.out.le⟩
end Go.Proofs.YtpfbfhigelbfcaaGreat

