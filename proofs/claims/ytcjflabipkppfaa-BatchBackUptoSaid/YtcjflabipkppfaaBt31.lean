/- Layer 15, the law: BatchBack; Layer 15, the law: BatchBack, walked; Layer 15, the laws' arguments, opened: records; records and what stands around -/
import Derived.Test.YtcjflabipkppfaaBt24
import Derived.Test.YtcjflabipkppfaaBt26
import Derived.Test.YtcjflabipkppfaaBt28
import Derived.Test.YtcjflabipkppfaaBt30
set_option linter.unusedSimpArgs false
set_option linter.unusedVariables false
namespace Go.Proofs.Ytcjflabipkppfaa
set_option linter.unusedVariables false
open Go.RowKit Go.Lib

theorem row4q {w : World} {g : Nat} {a0 a1 a2 a3 : Value} {t : TypeId} (h : w.heap[g]? = some (.cells #[a0, a1, a2, a3] t (0, 0))) :
    w.cell? ⟨g, 0, none⟩ = some a0 ∧ w.cell? ⟨g, 1, none⟩ = some a1 ∧ w.cell? ⟨g, 2, none⟩ = some a2 ∧ w.cell? ⟨g, 3, none⟩ = some a3 :=
  ⟨cell_rowH _ _ _ _ _ h, cell_rowH _ _ _ _ _ h, cell_rowH _ _ _ _ _ h, cell_rowH _ _ _ _ _ h⟩
theorem makeN_bare {r : Rc} (h : rightN r = 0) : makeN (bareN r) = makeN r := by
  have hk := rightN_k h
  unfold makeN
  rw [if_pos h, if_pos (bare_right h)]
  have e : dataN (bareN r) = dataN r := by
    obtain ⟨k, s, dg, nm, da, n, z⟩ := r
    dsimp only at hk
    unfold dataN bareN
    dsimp only
    rcases kinds (k := k) with h1 | h1 | rfl | rfl | rfl | rfl | rfl | rfl | rfl | rfl
    · omega
    · omega
    all_goals simp
  rw [e]
  rfl
theorem wordsN_get {l : List Rc} {k : Nat} {r : Rc} (hr : l[k]? = some r) (s seg a : Int) : (wordsN l s seg a)[k]? = some (wordN (bareN (r.num (s + k))) seg (a + (framesN (l.take k) s).length) (makeN (r.num (s + k))).length) := by
  induction l generalizing k s a with
  | nil => simp at hr
  | cons x l ih =>
    cases k with
    | zero =>
      simp only [List.getElem?_cons_zero, Option.some.injEq] at hr
      subst hr
      simp [wordsN, framesN]
    | succ k =>
      have h := ih (k := k) (by simpa using hr) (s + 1) (a + (makeN (x.num s)).length)
      simp only [wordsN, List.getElem?_cons_succ, h, List.take_succ_cons, framesN, List.length_append]
      have e1 : s + 1 + (k : Int) = s + ((k + 1 : Nat) : Int) := by omega
      rw [e1]
      congr 2
      push_cast
      omega
set_option maxRecDepth 100000 in
theorem rsize14_any (x : Rq) (w : World) (hx : x.Fit w) : Calls Try.prog 15 #[x.v] w fun e w' => e = .returned (.int .i64 ((makeN x.rc).length : Int)) ∧ Below w.heap.size w w' := by
  obtain ⟨wA, hA, hm, hb, c0, c1, _⟩ := box_rec w x hx.dg.1
  have HB := Lib.hid hb
  have HL := Lib.hid (hm.load hx.dg.1)
  have HMK := Lib.hid (rmake14_any x wA (hx.later hb))
  obtain ⟨F, hF⟩ : ∃ F, makeN x.rc = F := ⟨_, rfl⟩
  rw [hF] at HMK ⊢
  unfold Rq.v at HMK ⊢
  generalize mixC x.a x.dg x.z = M at *
  clear hx hm hb c0 c1 hF
  go_enter Try.func15, Try.ntmps15
  go_wp2_with (first
    | (refine wpList_ld rfl _ _ rfl _ rfl _ HL.out ?_)
    | (go_at_call 20; refine HMK.out.mono ?_; rintro e w1 ⟨v1, rfl, ho1, hb1⟩; have HB1 := Lib.hid (below_step HB.out hb1); obtain ⟨p1, c1, hv1, _, _, _, _⟩ := ho1.open; subst hv1; clear ho1 hb1))
  go_ret
  exact ⟨rfl, HB1.out⟩
end Go.Proofs.Ytcjflabipkppfaa

namespace Go.Proofs.Ytcjflabipkppfaa
set_option linter.unusedVariables false
open Go.RowKit Go.Lib

/-- records, a number, and what stands around, as a value -/
def arV (p : Option Addr) (n c : Nat) (s : Int) (pa : Option Addr) (na ca : Nat) (pe : Option Addr) (ne ce : Nat) : Value := .agg #[.slice p n c, .int .u64 s, .slice pa na ca, .slice pe ne ce]
theorem Gs.wordAt {W : World} {b off n : Nat} {L : List Wx} (h : Gs encWd W (some ⟨b, off, none⟩) n L) (j : Nat) (hj : j < n) : ∃ x, L[j]? = some x ∧ x ∈ L ∧ W.rangeAt b (off + j * 39) (mixL x.1.a x.1.dg x.1.t) := by
  obtain ⟨b', off', x, hp, h1, h2, h3⟩ := h.word j hj
  simp only [Option.some.injEq, Addr.mk.injEq, and_true] at hp
  obtain ⟨rfl, rfl⟩ := hp
  exact ⟨x, h1, h2, h3⟩

set_option maxRecDepth 100000 in
set_option maxHeartbeats 8000000 in
theorem batback_any (hM : cbMakeOk) (hS : cbSizeOk) (hP : cbParseOk) (p : Option Addr) (n c : Nat) (L : List Rx) (s : Int) (pa : Option Addr) (na ca : Nat) (az : List Int) (pe : Option Addr) (ne ce : Nat) (es : List Int) (seg : Int) (w : World) (h : Gs encRc w p n L) (hpc : p = none → c = 0) (hnc : n ≤ c) (hf : ∀ x ∈ L, x.1.Fit w ∧ x.1.n ≤ 1048576) (hn : n ≤ 1048576)
    (ha : Bs w pa na az) (hpa : pa = none → ca = 0) (hlca : na ≤ ca) (he : Bs w pe ne es) (hpe : pe = none → ce = 0) (hlce : ne ≤ ce) (hfr : na + (framesN (rcL L) 0).length + 29 + ne ≤ 2097152) (hs : 0 ≤ s ∧ s < 18446744073709551616) (hseg : -9223372036854775808 ≤ seg ∧ seg ≤ 9223372036854775807) :
    Calls Try.prog 4 #[arV p n c s pa na ca pe ne ce, .int .i64 seg] w fun e w' => e = .returned (.bool true) ∧ Below w.heap.size w w' := by
  have hl : (rcL L).length = n := by rw [rcL_length, h.len]
  have hok := rcL_ok fun x hx => (hf x hx).1
  obtain ⟨wA, hA⟩ : ∃ W, w.alloc (.cells #[.slice p n c, .int .u64 s, .slice pa na ca, .slice pe ne ce] 35) = W := ⟨_, rfl⟩
  have HR : Hid (wA.heap[w.heap.size]? = some (.cells #[.slice p n c, .int .u64 s, .slice pa na ca, .slice pe ne ce] 35 (0, 0))) := Lib.hid (by rw [← hA]; exact heap_alloc_new _ _)
  have HBA : Hid (Below w.heap.size w wA) := Lib.hid (by rw [← hA]; exact (Below.refl _ _).alloc (Nat.le_refl _) _)
  have HM := Lib.hid (hM p n c L s wA (h.later HBA.out) hpc hnc (fun x hx => ⟨(hf x hx).1.later HBA.out, (hf x hx).2⟩) hn (by omega) hs)
  have HLV := Lib.hid fun W => lives15_any hM hS hP W
  have HP := Lib.hid fun (q : Option Addr) (len cap : Nat) zs W => hP q len cap zs (na : Int) seg W
  obtain ⟨k0, k1, _⟩ := row4q HR.out
  have HEZ := Lib.hid (bmE_zero (l := rcL L) (s := s))
  have HBF : Hid (bmE (rcL L) s = 0 → bmB (rcL L) s = batN (rcL L) s ∧ bmS (rcL L) s = s + n + 1) := Lib.hid fun hE => ⟨by unfold bmB; rw [if_pos hE], by unfold bmS; rw [if_pos hE, hl]⟩
  have HBK := Lib.hid fun hE => (fun (hw : wrongN (rcL L) = 0) (h1 : s + (rcL L).length + 1 ≤ 18446744073709551615) => bat_back hok hw hs.1 h1 (by rw [framesN_length (rcL L) s 0]; omega) (by omega) az es seg) (bmE_zero hE).1 (bmE_zero hE).2
  have HFRB : Hid ((framesN (rcL L) 0).length ≤ 2097152) := Lib.hid (by omega)
  have HFL : Hid (∀ t, (framesN (rcL L) t).length = (framesN (rcL L) 0).length) := Lib.hid fun t => framesN_length _ _ _
  have HBL : Hid ((bmB (rcL L) s).length ≤ (framesN (rcL L) 0).length + 29) := Lib.hid (by
    unfold bmB
    split
    · unfold batN
      rw [List.length_append, framesN_length (rcL L) s 0, commit_len (by omega) (by omega)]
      omega
    · simp)
  have HG := Lib.hid h
  have HF := Lib.hid fun x hx => (hf x hx).1
  have HLR := Lib.hid hl
  have HXNB : Hid (∀ x ∈ L, x.1.n ≤ 1048576) := Lib.hid fun x hx => (hf x hx).2
  have HOK := Lib.hid hok
  have HA := Lib.hid ha
  have HE := Lib.hid he
  have HPA := Lib.hid hpa
  have HPE := Lib.hid hpe
  have hnz : na = az.length := ha.len.symm
  have HNZ := Lib.hid hnz
  have HNE := Lib.hid he.len
  rw [← hnz, hl] at HBK
  generalize hEE : bmE (rcL L) s = E at *
  generalize hNS : bmS (rcL L) s = NS at *
  obtain ⟨F, hF⟩ : ∃ F, bmB (rcL L) s = F := ⟨_, rfl⟩
  rw [hF] at HM HBL HBF
  obtain ⟨m, hm⟩ : ∃ m, F.length = m := ⟨_, rfl⟩
  have HMN := Lib.hid hm
  rw [hm] at HBL
  have hml := HBL.out
  have hsum : na + m + ne ≤ 2097152 := by omega
  unfold arV
  clear h hf hM hS hP hpc hnc hok hl ha he hpa hpe hF hm hnz hEE hNS hfr
  by_cases hz : E = 0
  · subst hz
    obtain ⟨hFB, hNS⟩ := HBF.out rfl
    have hbk := HBK.out rfl
    obtain ⟨hwz, hov⟩ := HEZ.out rfl
    have HNP : Hid (0 < n) := Lib.hid (by
      have h1 := List.length_pos_iff.2 (wrongN_zero hwz).1
      rw [HLR.out] at h1
      exact h1)
    have HRZ := Lib.hid (wrongN_zero hwz).2.2
    have HKZ := Lib.hid (wrongN_zero hwz).2.1
    clear hwz
    rw [HLR.out] at hov
    rw [← hFB, HMN.out] at hbk
    obtain ⟨SN, hSN⟩ : ∃ SN, s + (n : Int) = SN := ⟨_, rfl⟩
    rw [hSN] at hbk hNS
    have hw1 : IntKind.u64.wrap (NS - 1) = SN := by
      rw [hNS]
      simp [IntKind.wrap, IntKind.bits, IntKind.signed]
      omega
    have HBP := Lib.hid hbk
    have HNS := Lib.hid hNS
    have HSN := Lib.hid hSN
    have HOV := Lib.hid hov
    obtain ⟨ALL, hALL⟩ : ∃ A, az ++ F ++ es = A := ⟨_, rfl⟩
    rw [hALL] at HBP
    have HALL := Lib.hid hALL
    have HAL : Hid (ALL.length = na + m + ne) := Lib.hid (by rw [← hALL, List.length_append, List.length_append, HMN.out, HNE.out, ← HNZ.out])
    have HX0 : Hid (([] : List Int).length + na ≤ 140737488355328) := Lib.hid (by simp; omega)
    have HX1 : Hid (az.length + m ≤ 140737488355328) := Lib.hid (by rw [← HNZ.out]; omega)
    have HX2 : Hid ((az ++ F).length + ne ≤ 140737488355328) := Lib.hid (by rw [List.length_append, ← HNZ.out, HMN.out]; omega)
    clear hFB hNS hbk hov hSN hALL HBF HBK HEZ
    go_enter Try.func4, Try.ntmps4
    go_upto_region 4 with (go_at_call 6; refine HM.out.mono ?_; rintro e w1 ⟨v1, rfl, ho1, hb1⟩; have HB1 := Lib.hid hb1; obtain ⟨p1, c1, hv1, hlc1, hcm1, hbs1, hpc1⟩ := ho1.open; rw [HMN.out] at hv1 hlc1 hbs1; subst hv1; have HD1 := Lib.hid hbs1; have HP1 := Lib.hid hpc1; have HR1 := Lib.hid (row_later HR.out hb1); clear ho1 hb1 hbs1 hpc1 hlc1 hcm1)
    have kA := row4q HR1.out
    have kB := row4q (row_later HR1.out (Below.refl _ _).drew)
    have kC := row4q (row_later HR1.out (((Below.refl _ _).alloc (Nat.le_refl _) (.cells #[] 5)).drew))
    have HQ0 : Hid (Below w1.heap.size w1 (w1.alloc (.cells #[] 5)).drew) := Lib.hid (((Below.refl _ _).alloc (Nat.le_refl _) _).drew)
    have HO0 : Hid (Ob (w1.alloc (.cells #[] 5)).drew w1.heap.size 5 (.slice (some ⟨w1.heap.size, 0, none⟩) 0 0) []) := Lib.hid ((ob_lit w1 5 #[] [] 0 rfl (by unfold maxLen; omega) (fun j => by simp) rfl).later (Below.refl _ _).drew)
    have HA1 := Lib.hid ((HA.out.later HBA.out).later HB1.out)
    have HE1 := Lib.hid ((HE.out.later HBA.out).later HB1.out)
    clear k0 k1
    go_region_held3 (fun W => W.cell? ⟨w.heap.size, 0, none⟩ = some (.slice p n c) ∧ W.cell? ⟨w.heap.size, 1, none⟩ = some (.int .u64 s) ∧ W.cell? ⟨w.heap.size, 2, none⟩ = some (.slice pa na ca) ∧ W.cell? ⟨w.heap.size, 3, none⟩ = some (.slice pe ne ce)) (first | exact kA | exact kB | exact kC | exact kD | exact kE | exact kF) (first
      | (refine step_append_bytes rfl (.tmp 28) (.tmp 30) 24 5 rfl Try.underlying24 info8 w1.heap.size _ [] rfl HO0.out pa na ca az rfl (HA1.out.later HQ0.out) HPA.out HX0.out HQ0.out.size ?_; intro v2 w2 ho2 hg2; rw [List.nil_append] at ho2; have HO2 := Lib.hid ho2; have HB2 := Lib.hid (below_new HQ0.out HO0.out hg2 HQ0.out.size); have kD := row4q (row_later HR1.out HB2.out); clear ho2 hg2)
      | (refine step_append_bytes rfl (.tmp 31) (.tmp 32) 24 5 rfl Try.underlying24 info8 w1.heap.size _ az rfl HO2.out p1 m c1 F rfl (HD1.out.later HB2.out) HP1.out HX1.out HB2.out.size ?_; intro v3 w3 ho3 hg3; have HO3 := Lib.hid ho3; have HB3 := Lib.hid (below_new HB2.out HO2.out hg3 HB2.out.size); have kE := row4q (row_later HR1.out HB3.out); clear ho3 hg3)
      | (refine step_append_bytes rfl (.tmp 33) (.tmp 35) 24 5 rfl Try.underlying24 info8 w1.heap.size _ (az ++ F) rfl HO3.out pe ne ce es rfl (HE1.out.later HB3.out) HPE.out HX2.out HB3.out.size ?_; intro v4 w4 ho4 hg4; rw [HALL.out] at ho4; have HO4 := Lib.hid ho4; have HB4 := Lib.hid (below_new HB3.out HO3.out hg4 HB3.out.size); have kF := row4q (row_later HR1.out HB4.out); clear ho4 hg4))
    obtain ⟨p4, c4, hv4, hlc4, hcm4, hbs4, hpc4⟩ := HO4.out.open
    rw [HAL.out] at hv4 hlc4 hbs4
    subst hv4
    have HPX := Lib.hid (HP.out p4 (na + m + ne) c4 ALL w4 hbs4 hpc4 hlc4 hcm4 (by omega) (by omega) hseg)
    unfold BpQ at HPX
    rw [HBP.out] at HPX
    dsimp only at HPX
    have HB14 := Lib.hid (below_step HB1.out HB4.out)
    have HR4 := Lib.hid (row_later HR1.out HB4.out)
    obtain ⟨k0, k1, k2, k3⟩ := row4q HR4.out
    clear hbs4 hpc4 hlc4 hcm4 kA kB kC kD kE kF
    go_upto_region 6 with (go_at_call 12; refine HPX.out.mono ?_; rintro e w5 ⟨q2, n2, c2, L2, rfl, hg2, hl2, hk2, _, _, _, hb2⟩)
    obtain rfl : n2 = n := by
      have hq := congrArg List.length hl2
      rw [List.length_map, wordsN_length, HLR.out, hg2.len] at hq
      exact hq
    have HG2 := Lib.hid hg2
    have HL2 := Lib.hid hl2
    have HK2 := Lib.hid hk2
    have HB5 := Lib.hid (below_step HB14.out hb2)
    have HR5 := Lib.hid (row_later HR4.out hb2)
    have HGR := Lib.hid (HG.out.later (below_step HBA.out HB5.out))
    have HFX := Lib.hid fun x hx V (hV : Below w5.heap.size w5 V) => (HF.out x hx).later (below_step (below_step HBA.out HB5.out) hV)
    have HGE : Hid (w.heap.size < w5.heap.size) := Lib.hid (Array.getElem?_eq_some_iff.1 HR5.out).1
    clear hg2 hl2 hk2 hb2 k0 k1 k2 k3
    obtain ⟨k0, k1, k2, k3⟩ := row4q HR5.out
    obtain ⟨b, off, rfl, _⟩ := HG.out.ptr 0 HNP.out
    obtain ⟨b2, o2, rfl, _⟩ := HG2.out.ptr 0 HNP.out
    go_upto_region 9 with fail
    clear k0 k1 k2 k3
    go_wp2
    go_loopw [13, 14] (fun av iv wr => ∃ k : Nat, k ≤ n2 ∧ av = .int .i64 ((na : Int) + ((framesN ((rcL L).take k) s).length : Int)) ∧ iv = .int .i64 (k : Int) ∧ Hid (Below w5.heap.size w5 wr)) (fun _ iv _ => n2 - (intOf iv).toNat)
    case atStart => exact ⟨0, by omega, by simp [framesN], rfl, Lib.hid (Below.refl _ _)⟩
    case round =>
      obtain ⟨k, hk, rfl, rfl, HB⟩ := hrel
      by_cases hlt : k < n2
      · obtain ⟨x, hLk, hRk, hxm, _, hrng⟩ := (HGR.out.later HB.out).recAt k hlt
        obtain ⟨x2, hL2k, hx2m, hrng2⟩ := (HG2.out.later HB.out).wordAt k hlt
        have hki : (k : Int) < (n2 : Int) := by omega
        have hwk : IntKind.u64.wrap (k : Int) = (k : Int) := wrap_u64_in (by omega) (by omega)
        have hsk : IntKind.u64.wrap (s + (k : Int)) = s + k := wrap_u64_in (by omega) (by have := HOV.out; omega)
        have hrm : x.1.rc ∈ rcL L := List.mem_of_getElem? hRk
        have HKX := Lib.hid (HKZ.out _ hrm)
        have HRX := Lib.hid (HRZ.out _ hrm)
        have HFT := Lib.hid fun V (hV : Below wr.heap.size wr V) => HFX.out x hxm V (HB.out.trans (hV.mono HB.out.size))
        have HFS := Lib.hid (framesN_succ hRk s)
        have HWG := Lib.hid (wordsN_get hRk s seg (na : Int))
        have HXW : Hid (x2.1.wd = wordN (bareN (x.1.rc.num (s + k))) seg ((na : Int) + ((framesN ((rcL L).take k) s).length : Int)) (makeN (x.1.rc.num (s + k))).length) := Lib.hid (by
          have h1 := congrArg (fun (l : List Wd) => l[k]?) HL2.out
          rw [List.getElem?_map, hL2k, HWG.out] at h1
          simpa using h1)
        have HXK := Lib.hid (HK2.out x2 hx2m)
        have HBR := Lib.hid fun V (hV : Below wr.heap.size wr V) => rbareQ_any x.1 V (HFT.out V hV) (by have h1 := HKX.out; have h2 : x.1.rc.k = x.1.k := rfl; omega)
        have HRG := Lib.hid (rec_load hrng)
        have HRW := Lib.hid fun V (hV : Below wr.heap.size wr V) => range_later hrng2 hV
        have hfl : ((framesN ((rcL L).take k) s).length : Int) ≤ 2097152 := by
          have h1 := framesN_length ((rcL L).take k) s 0
          have h2 : (framesN (rcL L) 0).length = (framesN ((rcL L).take k) 0).length + (framesN ((rcL L).drop k) (0 + ((rcL L).take k).length)).length := by
            rw [← List.length_append, ← framesN_append, List.take_append_drop]
          have h3 := HFL.out s
          have h4 := HFRB.out
          omega
        obtain ⟨A, hA'⟩ : ∃ A, (na : Int) + ((framesN ((rcL L).take k) s).length : Int) = A := ⟨_, rfl⟩
        rw [hA'] at HXW ⊢
        have HA' := Lib.hid hA'
        have hab : 0 ≤ A ∧ A ≤ 4194304 := by omega
        obtain ⟨g, hg⟩ : ∃ g, wr.heap.size = g := ⟨_, rfl⟩
        have HSG := Lib.hid hg
        have HR5r := Lib.hid (row_later HR5.out HB.out)
        obtain ⟨k0, k1, k2, k3⟩ := row4q HR5r.out
        unfold Rq.v at HBR
        clear hrng hrng2 hLk hRk hL2k hA' hg
        go_upto_region 13 with (first
          | (refine wpList_ld rfl _ _ rfl _ rfl _ HRG.out ?_)
          | (go_at_call 13; refine (HBR.out _ (Below.refl _ _)).mono ?_; rintro e w6 ⟨y, rfl, hf6, hr6, hb6, hy6⟩; have HF6 := Lib.hid hf6; have HR6 := Lib.hid hr6; have HB6 := Lib.hid hb6; clear hf6 hr6 hb6 hy6)
          | (refine wpList_store_row rfl 42 _ _ rfl w6.heap.size _ rfl rfl 42 _ (heap_alloc_new _ _) (Rq.sizeOf y HF6.out.dg.1) (Rq.sizes rq0 y rfl HF6.out.dg.1) y.one ?_; generalize hw7 : World.setRow _ _ _ = w7))
        have HR7 : Hid (Rm w7 w6.heap.size y) := Lib.hid (by rw [← hw7]; exact Mx.row (show Rm (w6.alloc (.cells (mixC rq0.a rq0.dg rq0.z) 42)) w6.heap.size rq0 from heap_alloc_new _ _))
        have HB67 : Hid (Below w6.heap.size w6 w7) := Lib.hid (by rw [← hw7]; exact below_setRow8 ((Below.refl _ _).alloc (Nat.le_refl _) _) _ _ (Nat.le_refl _))
        have HR7r := Lib.hid (row_later HR5r.out (below_step HB6.out HB67.out))
        clear k0 k1 k2 k3 hw7
        obtain ⟨k0, k1, k2, k3⟩ := row4q HR7r.out
        have cl1 := (HR7.out.cells HF6.out.dg.1).2.1
        have fr1 := Mx.frozen HR7.out 1
        obtain ⟨w8, hw8⟩ : ∃ W, w7.setCell ⟨w6.heap.size, 1, none⟩ (.int .u64 (s + k)) = W := ⟨_, rfl⟩
        obtain ⟨X, hX⟩ : ∃ X, { y with s := s + k } = X := ⟨_, rfl⟩
        have HR8 : Hid (Rm w8 w6.heap.size X) := Lib.hid (by rw [← hw8, ← hX]; exact HR7.out.setS _)
        have HB68 : Hid (Below w6.heap.size w6 w8) := Lib.hid (by rw [← hw8]; exact HB67.out.setCell (p := ⟨w6.heap.size, 1, none⟩) (Nat.le_refl _) _)
        have HB8 := Lib.hid (below_step HB6.out HB68.out)
        have HXD2 : Hid (X.dg.length = 32) := Lib.hid (by rw [← hX]; exact HF6.out.dg.1)
        have HXF : Hid (X.Fit w8) := Lib.hid (by
          have h1 := HF6.out.later HB68.out
          have h2 := HOV.out
          rw [← hX]
          exact ⟨h1.bs, h1.pc, h1.nc, h1.cm, h1.dg, h1.nm, by show 0 ≤ s + (k : Int) ∧ s + (k : Int) < _; omega, h1.k, h1.N, h1.Z⟩)
        have HXRC : Hid (X.rc = bareN (x.1.rc.num (s + k))) := Lib.hid (by
          rw [← hX]
          show ({ y.rc with s := s + k } : Rc) = _
          rw [HR6.out]
          rfl)
        have HMX : Hid (makeN X.rc = makeN (x.1.rc.num (s + k))) := Lib.hid (by rw [HXRC.out]; exact makeN_bare (show rightN (x.1.rc.num (s + k)) = 0 from HRX.out))
        obtain ⟨FN, hFN⟩ : ∃ m, (makeN (x.1.rc.num (s + k))).length = m := ⟨_, rfl⟩
        have hfn : FN ≤ 65557 := by rw [← hFN, ← HMX.out]; exact makeN_length HXF.out.ok
        have HAN : Hid ((na : Int) + ((framesN ((rcL L).take (k + 1)) s).length : Int) = A + (FN : Int)) := Lib.hid (by
          rw [HFS.out, List.length_append, hFN, ← HA'.out]
          push_cast
          omega)
        have HSZ := Lib.hid fun V (hV : Below w8.heap.size w8 V) => (by
          have h1 := rsize14_any X V (HXF.out.later hV)
          rw [HMX.out, hFN] at h1
          exact h1 : Calls Try.prog 15 #[X.v] V fun e w' => e = .returned (.int .i64 (FN : Int)) ∧ Below V.heap.size V w')
        have HXN : Hid (X.n ≤ 140737488355328) := Lib.hid (by
          have h1 := HXF.out.nc
          have h2 := HXF.out.cm
          have h3 := HXF.out.bs.len
          have h4 : X.da = (X.rc).da := rfl
          have h5 : (x.1.rc.num (s + k)).da = x.1.da := rfl
          have h6 : x.1.da.length = x.1.n := (HFT.out _ (Below.refl _ _)).bs.len
          have h7 := HXNB.out x hxm
          rw [HXRC.out] at h4
          have h8 : (bareN (x.1.rc.num (s + k))).da.length ≤ x.1.da.length := by
            unfold bareN
            dsimp only
            split
            · exact Nat.le_refl _
            · simp
          rw [h4] at h3
          omega)
        have HWD := Lib.hid fun V (hV : Below w8.heap.size w8 V) => rword_any X seg A (FN : Int) V (HXF.out.later hV) HXN.out
        have hxq : x2.1 = wordQ X seg A (FN : Int) := Wq.wd_inj (by rw [HXW.out, hFN, wordQ_wd HXF.out, HXRC.out])
        obtain ⟨Q, hQ⟩ : ∃ Q, wordQ X seg A (FN : Int) = Q := ⟨_, rfl⟩
        rw [hQ] at hxq HWD
        have hqd : Q.dg.length = 32 := by rw [← hxq]; exact x2.2
        have hqo := HXK.out
        rw [hxq] at HRW hqo
        have heq0 := word_eq hqo
        have HSS := Lib.hid fun V (hV : Below w8.heap.size w8 V) => And.intro (HRW.out V (below_step HB8.out hV)) (Mx.range (HR8.out.later hV))
        have HLD := Lib.hid fun V (hV : Below w8.heap.size w8 V) => (HR8.out.later hV).load HXD2.out
        have HLZ : Hid ((Try.prog.info? 42).map (·.size) = some (mixL X.a X.dg X.z).length) := Lib.hid (by rw [mixL_length, HXD2.out]; exact size38)
        have HLW : Hid ((Try.prog.info? 47).map (·.size) = some (mixL Q.a Q.dg Q.t).length) := Lib.hid (by rw [mixL_length, hqd]; exact size39)
        unfold Rq.v at HSZ HWD
        unfold Wq.v locV at HWD
        unfold mixC at HSZ HWD HLD heq0
        obtain ⟨LR, hLR⟩ : ∃ l, mixL X.a X.dg X.z = l := ⟨_, rfl⟩
        obtain ⟨LW, hLW⟩ : ∃ l, mixL Q.a Q.dg Q.t = l := ⟨_, rfl⟩
        rw [hLR] at HSZ HWD HSS HLD HLZ
        rw [hLW] at HWD HSS HLW heq0
        clear hLR hLW hQ hqd hqo hX hFN hxq
        go_upto_region 14 with fail
        clear k0 k1 k2 k3 cl1 fr1 hw8
        refine wp_region_held_drew (S := (fun W => W.rangeAt b2 (o2 + k * 39) LW ∧ W.rangeAt w6.heap.size 0 LR)) (by kernel_rfl) (HSS.out _ (Below.refl _ _).drew) (fun hHeld => ?_)
        refine take_at 0 (v := ?vv1) rfl (by kernel_rfl) (by kernel_rfl) (by kernel_rfl) (fun _ _ _ h => h) (Or.inl ⟨by rfl, ?hy1⟩) (by assumption) ?rest1
        case hy1 => intro w hSw; (try dsimp only at hSw); go_simp; (try with_reducible rfl)
        (try simp only [Act.put, List.setIfInBounds_toArray, List.set_cons_zero, List.set_cons_succ])
        refine take_at 1 (v := ?vv2) rfl (by kernel_rfl) (by kernel_rfl) (by kernel_rfl) (fun _ _ _ h => h) (Or.inl ⟨by rfl, ?hy2⟩) (by assumption) ?rest2
        case hy2 => intro w hSw; (try dsimp only at hSw); go_simp; (try with_reducible rfl)
        (try simp only [Act.put, List.setIfInBounds_toArray, List.set_cons_zero, List.set_cons_succ])
        refine take_at 2 (v := ?vv3) rfl (by kernel_rfl) (by kernel_rfl) (by kernel_rfl) (fun _ _ _ h => h) (Or.inl ⟨by rfl, ?hy3⟩) (by assumption) ?rest3
        case hy3 => intro w hSw; (try dsimp only at hSw); go_simp; (try with_reducible rfl)
        (try simp only [Act.put, List.setIfInBounds_toArray, List.set_cons_zero, List.set_cons_succ])
        refine take_at 3 rfl (by kernel_rfl) (by kernel_rfl) (by kernel_rfl) (fun _ _ _ h => h) (yieldsIf_load_mid (by rfl) _ _ rfl _ _ rfl _ _ (fun _ h => h.1) Try.underlying47 rfl HLW.out) (by assumption) ?_
        (try simp only [Act.put, List.setIfInBounds_toArray, List.set_cons_zero, List.set_cons_succ])
        refine take_at 4 rfl (by kernel_rfl) (by kernel_rfl) (by kernel_rfl) (fun _ _ _ h => h) (yieldsIf_load_mid (by rfl) _ _ rfl _ _ rfl _ _ (fun _ h => h.2) Try.underlying42 rfl HLZ.out) (by assumption) ?_
        (try simp only [Act.put, List.setIfInBounds_toArray, List.set_cons_zero, List.set_cons_succ])
        refine take_at 5 (v := ?vv6) rfl (by kernel_rfl) (by kernel_rfl) (by kernel_rfl) (fun _ _ _ h => h) (Or.inl ⟨by rfl, ?hy6⟩) (by assumption) ?rest6
        case hy6 => intro w hSw; (try dsimp only at hSw); go_simp; (try with_reducible rfl)
        (try simp only [Act.put, List.setIfInBounds_toArray, List.set_cons_zero, List.set_cons_succ])
        refine take_at 6 (v := ?vv7) rfl (by kernel_rfl) (by kernel_rfl) (by kernel_rfl) (fun _ _ _ h => h) (Or.inl ⟨by rfl, ?hy7⟩) (by assumption) ?rest7
        case hy7 => intro w hSw; (try dsimp only at hSw); go_simp; (try with_reducible rfl)
        (try simp only [Act.put, List.setIfInBounds_toArray, List.set_cons_zero, List.set_cons_succ])
        refine take_at 7 rfl (by kernel_rfl) (by kernel_rfl) (by kernel_rfl) (fun _ _ _ h => h) (yieldsIf_load_mid (by rfl) _ _ rfl _ _ rfl _ _ (fun _ h => h.2) Try.underlying42 rfl HLZ.out) (by assumption) ?_
        (try simp only [Act.put, List.setIfInBounds_toArray, List.set_cons_zero, List.set_cons_succ])
        refine ready_at 8 rfl (by kernel_rfl) (fun K hK => ?_)
        go_simp
        refine (HSZ.out _ (Below.refl _ _).drew).mono ?_
        rintro e w9 ⟨rfl, hb9⟩
        have HB9 : Hid (Below w8.heap.size w8 w9) := Lib.hid (below_step (Below.refl w8.heap.size w8).drew hb9)
        have KB := Lib.hid (HSS.out _ HB9.out)
        clear hb9
        first
          | refine hK.out _ _ ?hS9 (fun hHeld => ?rest9)
          | (go_wp2_with fail; refine hK.out _ _ ?hS9 (fun hHeld => ?rest9))
        case hS9 => exact KB.out
        clear hK K
        (try simp only [Act.put, List.setIfInBounds_toArray, List.set_cons_zero, List.set_cons_succ])
        refine take_at 9 (v := ?vv10) rfl (by kernel_rfl) (by kernel_rfl) (by kernel_rfl) (fun _ _ _ h => h) (Or.inl ⟨by rfl, ?hy10⟩) (by assumption) ?rest10
        case hy10 => intro w hSw; (try dsimp only at hSw); go_simp; (try with_reducible rfl)
        (try simp only [Act.put, List.setIfInBounds_toArray, List.set_cons_zero, List.set_cons_succ])
        refine ready_at 10 rfl (by kernel_rfl) (fun K hK => ?_)
        go_simp
        refine (HWD.out _ HB9.out).mono ?_
        rintro e w10 ⟨rfl, hb10⟩
        have HB10 := Lib.hid (below_step HB9.out hb10)
        have KC := Lib.hid (HSS.out _ HB10.out)
        clear hb10
        first
          | refine hK.out _ _ ?hS11 (fun hHeld => ?rest11)
          | (go_wp2_with fail; refine hK.out _ _ ?hS11 (fun hHeld => ?rest11))
        case hS11 => exact KC.out
        clear hK K
        (try simp only [Act.put, List.setIfInBounds_toArray, List.set_cons_zero, List.set_cons_succ])
        refine take_at 11 (v := ?vv12) rfl (by kernel_rfl) (by kernel_rfl) (by kernel_rfl) (fun _ _ _ h => h) (Or.inl ⟨by rfl, ?hy12⟩) (by assumption) ?rest12
        case hy12 => intro w hSw; (try dsimp only at hSw); go_simp; (try with_reducible rfl)
        (try simp only [Act.put, List.setIfInBounds_toArray, List.set_cons_zero, List.set_cons_succ])
        refine wpAnyH_done (by kernel_rfl) ?_ _
        go_wp2_with (first
          | (refine wpList_ld rfl _ _ rfl _ rfl _ (HLD.out _ HB10.out) ?_)
          | (go_at_call 15; refine (HSZ.out _ HB10.out).mono ?_; rintro e w11 ⟨rfl, hb11⟩; have HB11 := Lib.hid (below_step HB8.out (below_step HB10.out hb11)); clear hb11))
        exact ⟨⟨k + 1, by omega, by rw [HAN.out], by go_num, Lib.hid (HB.out.trans (HB11.out.mono HB.out.size))⟩, by simp [intOf] <;> omega⟩
      · obtain rfl : k = n2 := by omega
        go_wp2_with (go_at_call 11; refine (HLV.out _).mono ?_; rintro e w7 ⟨rfl, hb7⟩; have HB7 := Lib.hid hb7; clear hb7)
        go_ret
        exact ⟨rfl, below_step HBA.out (HB5.out.trans ((HB.out.trans (HB7.out.mono HB.out.size)).mono HB5.out.size))⟩
  · have hne : (E != 0) = true := by simpa using hz
    go_enter Try.func4, Try.ntmps4
    go_wp2_with (first
      | (go_at_call 6; refine HM.out.mono ?_; rintro e w1 ⟨v1, rfl, ho1, hb1⟩; have HB1 := Lib.hid hb1; obtain ⟨p1, c1, hv1, hlc1, hcm1, hbs1, hpc1⟩ := ho1.open; rw [HMN.out] at hv1 hlc1 hbs1; subst hv1; clear ho1 hb1 hbs1 hpc1 hlc1 hcm1)
      | (go_at_call 11; refine (HLV.out _).mono ?_; rintro e w7 ⟨rfl, hb7⟩; have HB7 := Lib.hid (below_step HB1.out hb7); clear hb7))
    go_ret
    exact ⟨rfl, below_step HBA.out HB7.out⟩
end Go.Proofs.Ytcjflabipkppfaa

namespace Go.Proofs.Ytcjflabipkppfaa
set_option linter.unusedVariables false
open Go.RowKit Go.Lib Go.ChangeShapes Go.WideShapes Go.ChangeAt

theorem makeN_le {r : Rc} (hr : r.Ok) : (makeN r).length ≤ 54 + r.da.length + r.nm.length := by
  by_cases h : rightN r = 0
  · have hk := rightN_k h
    have hd := hr.dgl
    rw [makeN_len h]
    unfold dataN
    split
    · rw [List.length_append]; omega
    · split
      · simp; omega
      · split
        · simp; omega
        · split
          · omega
          · split <;> simp [putN_length, magN] <;> omega
  · unfold makeN
    rw [if_neg h]
    simp
def rxSz (q : Rx) : Nat := q.1.c + q.1.nm.size + 40
theorem frames_le : ∀ (L : List Rx) (s : Int), (∀ x ∈ L, x.1.rc.Ok ∧ x.1.da.length ≤ x.1.c) → (framesN (rcL L) s).length * 20 ≤ 27 * (L.map rxSz).sum
  | [], s, _ => by simp [rcL, framesN]
  | x :: L, s, h => by
    have h1 := frames_le L (s + 1) fun y hy => h y (by simp [hy])
    obtain ⟨h2, h3⟩ := h x (by simp)
    have h4 := makeN_le (h2.num s)
    have h5 : (x.1.rc.num s).da = x.1.da := rfl
    have h6 : (x.1.rc.num s).nm = numsOf x.1.nm := rfl
    rw [h5, h6, numsOf_length] at h4
    have e : framesN (rcL (x :: L)) s = makeN (x.1.rc.num s) ++ framesN (rcL L) (s + 1) := rfl
    rw [e, List.length_append, List.map_cons, List.sum_cons]
    unfold rxSz at *
    omega
theorem open_int'' {H : Type} {enc : TypeId × Value → H} {P : Program} {W : World} {base : Nat} {sp : Nat → Bool} {held : Bool} {t : TypeId} {k : IntKind} {fuel : Nat} {v : Value} {x : DataW H × List MemPlace} (ht : P.underlying t = some (.int k))
    (h : DataW.trod enc P W base sp held fuel t [v] = some x) : ∃ n, v = .int k n ∧ x = (.lit (.int k n), []) ∧ (Lit.int k n).wf = true := by
  obtain ⟨n, hcs, hx, hw⟩ := DataW.trod_int ht h
  simp only [List.cons.injEq, and_true] at hcs
  exact ⟨n, hcs, hx, hw⟩
section
variable {H : Type} {enc : TypeId × Value → H} {W : World} {base : Nat} {held : Bool}
set_option maxRecDepth 100000 in
theorem open_rx (fuel : Nat) (cs : List Value) (x : DataW H × List MemPlace) (h : DataW.trod enc Try.prog W base (fun _ => true) held fuel encRc.t cs = some x) :
    ∃ q : Rx, cs = encRc.f q ∧ (q.1.nm.size ≤ 1048576 → q.1.Fit W) ∧ rxSz q ≤ Rows.uptoBulk x.1 := by
  have h' : DataW.trod enc Try.prog W base (fun _ => true) held fuel 42 cs = some x := h
  obtain ⟨y0, y1, y2, y3, y4, y5, y6, m, hx, hl, h0, h1, h2, h3, h4, h5, h6⟩ := trod_struct7 Try.underlying42 h'
  have ec : Try.prog.cellsOf 42 = 38 := by kernel_rfl
  rw [ec] at hl
  have e0 : Try.prog.cellsOf 3 = 1 := by kernel_rfl
  have e1 : Try.prog.cellsOf 23 = 1 := by kernel_rfl
  have e2 : Try.prog.cellsOf 40 = 32 := by kernel_rfl
  have e3 : Try.prog.cellsOf 9 = 1 := by kernel_rfl
  have e4 : Try.prog.cellsOf 24 = 1 := by kernel_rfl
  have e5 : Try.prog.cellsOf 5 = 1 := by kernel_rfl
  simp only [e0, e1, e2, e3, e4] at h0 h1 h2 h3 h4 h5 h6
  have hc := cut7 cs hl
  have one : ∀ a, a < 38 → ∃ v, (cs.drop a).take 1 = [v] := fun a ha => by
    rw [List.drop_eq_getElem_cons (by omega)]
    exact ⟨_, rfl⟩
  obtain ⟨v0, q0⟩ := one 0 (by omega)
  obtain ⟨v1, q1⟩ := one 1 (by omega)
  obtain ⟨v3, q3⟩ := one 34 (by omega)
  obtain ⟨v4, q4⟩ := one 35 (by omega)
  obtain ⟨v5, q5⟩ := one 36 (by omega)
  obtain ⟨v6, q6⟩ := one 37 (by omega)
  rw [q0] at h0 hc
  rw [q1] at h1 hc
  rw [q3] at h3 hc
  rw [q4] at h4 hc
  rw [q5] at h5 hc
  rw [q6] at h6 hc
  obtain ⟨k, rfl, hy0, hw0⟩ := open_int'' Try.underlying3 h0
  obtain ⟨s, rfl, hy1, hw1⟩ := open_int'' Try.underlying23 h1
  obtain ⟨dg, hdg, hdc, hb2, _⟩ := open_dig h2
  obtain ⟨nm, rfl, hnm, hb3⟩ := open_str' Try.underlying9 h3
  obtain ⟨p, n, c, da, rfl, hlc, hcm, hpc, hb4, hbs⟩ := open_bs' Try.underlying24 Try.underlying5 e5 h4
  obtain ⟨N, rfl, hy5, hw5⟩ := open_int'' Try.underlying3 h5
  obtain ⟨Z, rfl, hy6, hw6⟩ := open_int'' Try.underlying3 h6
  refine ⟨⟨⟨k, s, dg, nm, p, n, c, da, N, Z⟩, hdg.1⟩, ?_, fun hz => ⟨hbs, hpc, hlc, hcm, hdg, by dsimp only at hz ⊢; omega, wf_u64 hw1, wf_i64 hw0, wf_i64 hw5, wf_i64 hw6⟩, ?_⟩
  · rw [hc, hdc]
    rfl
  · rw [hx]
    simp only [Rows.uptoBulk, Rows.uptoBulkAll, hb2, hb3, hb4, hy0, hy1, hy5, hy6, rxSz]
    omega
theorem open_recs {fuel : Nat} {a0 : Option Addr} {len cap : Nat} {x : DataW H × List MemPlace} (hk : Rows.uptoBulk x.1 ≤ 1048576)
    (h : DataW.trod enc Try.prog W base (fun _ => true) held fuel 22 [.slice a0 len cap] = some x) :
    len ≤ cap ∧ (a0 = none → cap = 0) ∧ ∃ L : List Rx, Gs encRc W a0 len L ∧ (∀ x ∈ L, x.1.Fit W ∧ x.1.n ≤ 1048576) ∧ len ≤ 1048576 ∧ (framesN (rcL L) 0).length * 20 ≤ 27 * Rows.uptoBulk x.1 := by
  obtain ⟨hl0, hm0, hp0, L, hL, hLo, hLs⟩ := open_gs encRc Try.underlying22 (by kernel_rfl) rxSz (fun q => q.1.nm.size ≤ 1048576 → q.1.Fit W) open_rx h
  have hmem : ∀ x ∈ L, x.1.Fit W ∧ x.1.n ≤ 1048576 := fun q hq => by
    have h1 := sum_mem (List.mem_map_of_mem (f := rxSz) hq)
    have h3 : q.1.c + q.1.nm.size + 40 = rxSz q := rfl
    have h4 : (L.map rxSz).sum + 1 ≤ Rows.uptoBulk x.1 := hLs
    have h2 := hLo q hq (by omega)
    exact ⟨h2, by have := h2.nc; omega⟩
  have h1x : ∀ x : Rx, 1 ≤ rxSz x := fun x => by unfold rxSz; omega
  have hlen : L.length ≤ (L.map rxSz).sum := sum_len h1x L
  have hLs' : (L.map rxSz).sum + 1 ≤ Rows.uptoBulk x.1 := hLs
  have hLn := hL.len
  have h2 := frames_le L 0 fun q hq => ⟨(hmem q hq).1.ok, by have h1 := (hmem q hq).1; rw [h1.bs.len]; exact h1.nc⟩
  clear hLs hLo h1x hm0
  exact ⟨hl0, hp0, L, hL, hmem, by omega, by omega⟩
theorem trod_struct4B {P : Program} {spare : Nat → Bool} {t : TypeId} {f0 f1 f2 f3 : Field} {fuel : Nat} {cs : List Value} {x : DataW H × List MemPlace} (ht : P.underlying t = some (.struct #[f0, f1, f2, f3])) (h : DataW.trod enc P W base spare held fuel t cs = some x) :
    ∃ y0 y1 y2 y3 n, x.1 = .agg [y0.1, y1.1, y2.1, y3.1] ∧ cs.length = P.cellsOf t ∧ DataW.trod enc P W base spare held n f0.type ((cs.drop f0.offset).take (P.cellsOf f0.type)) = some y0 ∧
      DataW.trod enc P W base spare held n f1.type ((cs.drop f1.offset).take (P.cellsOf f1.type)) = some y1 ∧ DataW.trod enc P W base spare held n f2.type ((cs.drop f2.offset).take (P.cellsOf f2.type)) = some y2 ∧
      DataW.trod enc P W base spare held n f3.type ((cs.drop f3.offset).take (P.cellsOf f3.type)) = some y3 := by
  obtain ⟨xs, n, _, rfl, hl, hlen, hf⟩ := DataW.trod_struct ht h
  match xs, hlen with
  | [y0, y1, y2, y3], _ => exact ⟨y0, y1, y2, y3, n, by simp, hl, by simpa using hf 0 f0 rfl, by simpa using hf 1 f1 rfl, by simpa using hf 2 f2 rfl, by simpa using hf 3 f3 rfl⟩
set_option maxRecDepth 100000 in
theorem open_aroL (fuel : Nat) (cs : List Value) (x : DataW H × List MemPlace) (h : DataW.trod enc Try.prog W base (fun _ => true) held fuel 35 cs = some x) (hk : Rows.uptoBulk x.1 ≤ 1048576) :
    ∃ p n c L s pa na ca az pe ne ce es, cs = [.slice p n c, .int .u64 s, .slice pa na ca, .slice pe ne ce] ∧ Gs encRc W p n L ∧ (p = none → c = 0) ∧ n ≤ c ∧ (∀ x ∈ L, x.1.Fit W ∧ x.1.n ≤ 1048576) ∧ n ≤ 1048576 ∧ Bs W pa na az ∧ (pa = none → ca = 0) ∧ na ≤ ca ∧ Bs W pe ne es ∧ (pe = none → ce = 0) ∧ ne ≤ ce ∧ na + (framesN (rcL L) 0).length + 29 + ne ≤ 2097152 ∧ (0 ≤ s ∧ s < 18446744073709551616) := by
  obtain ⟨y0, y1, y2, y3, m, hx, hl, h0, h1, h2, h3⟩ := trod_struct4B Try.underlying35 h
  have ec : Try.prog.cellsOf 35 = 4 := by kernel_rfl
  rw [ec] at hl
  match cs, hl with
  | [v0, v1, v2, v3], _ =>
    have e0 : Try.prog.cellsOf 22 = 1 := by kernel_rfl
    have e1 : Try.prog.cellsOf 23 = 1 := by kernel_rfl
    have e2 : Try.prog.cellsOf 24 = 1 := by kernel_rfl
    have e3 : Try.prog.cellsOf 5 = 1 := by kernel_rfl
    simp only [e0, e1, e2, List.drop_succ_cons, List.drop_zero, List.take_succ_cons, List.take_zero] at h0 h1 h2 h3
    rw [hx] at hk
    simp only [Rows.uptoBulk, Rows.uptoBulkAll] at hk
    obtain ⟨p, n, c, hv0⟩ : ∃ p n c, v0 = .slice p n c := by
      rcases DataW.trod_slice Try.underlying22 h0 with ⟨hcs, _⟩ | ⟨a, len', cap', elems, rest, n', _, hcs, _⟩
      · simp only [List.cons.injEq, and_true] at hcs
        exact ⟨_, _, _, hcs⟩
      · simp only [List.cons.injEq, and_true] at hcs
        exact ⟨_, _, _, hcs⟩
    subst hv0
    obtain ⟨s, hs, hy1, hw1⟩ := DataW.trod_int Try.underlying23 h1
    obtain ⟨pa, na, ca, az, hv2, hlc2, hcm2, hpc2, hbk2, hbs2⟩ := open_bs' Try.underlying24 Try.underlying5 e3 h2
    obtain ⟨pe, ne, ce, es, hv3, hlc3, hcm3, hpc3, hbk3, hbs3⟩ := open_bs' Try.underlying24 Try.underlying5 e3 h3
    simp only [List.cons.injEq, and_true] at hs
    subst hs hv2 hv3
    obtain ⟨hlc, hpc, L, hg, hf, hn, hfr⟩ := open_recs (by omega) h0
    refine ⟨p, n, c, L, s, pa, na, ca, az, pe, ne, ce, es, rfl, hg, hpc, hlc, hf, hn, hbs2, hpc2, hlc2, hbs3, hpc3, hlc3, ?_, wf_u64 hw1⟩
    rw [hbk2, hbk3] at hk
    omega
set_option maxRecDepth 100000 in
theorem open_aro {r : Reach} {b0 : Nat} {v : Value} {d : DataW H} {ps : List MemPlace} (hv : Value.okWide Try.prog W r b0 35 v)
    (h : DataW.Trod enc Try.prog W base (fun _ => true) held 35 v d ps) (hk : Rows.uptoBulk d ≤ 1048576) :
    ∃ p n c L s pa na ca az pe ne ce es, v = arV p n c s pa na ca pe ne ce ∧ Gs encRc W p n L ∧ (p = none → c = 0) ∧ n ≤ c ∧ (∀ x ∈ L, x.1.Fit W ∧ x.1.n ≤ 1048576) ∧ n ≤ 1048576 ∧ Bs W pa na az ∧ (pa = none → ca = 0) ∧ na ≤ ca ∧ Bs W pe ne es ∧ (pe = none → ce = 0) ∧ ne ≤ ce ∧ na + (framesN (rcL L) 0).length + 29 + ne ≤ 2097152 ∧ (0 ≤ s ∧ s < 18446744073709551616) := by
  obtain ⟨cs, rfl, hsz⟩ := okWide_struct Try.underlying35 hv
  obtain ⟨fuel, hf⟩ := h
  obtain ⟨p, n, c, L, s, pa, na, ca, az, pe, ne, ce, es, e, g⟩ := open_aroL fuel cs.toList (d, ps) hf hk
  refine ⟨p, n, c, L, s, pa, na, ca, az, pe, ne, ce, es, ?_, g⟩
  unfold arV
  congr 1
  exact Array.toList_inj.1 e
end
end Go.Proofs.Ytcjflabipkppfaa
