/- Layer 21, the program: Get, Row, Names, List; Layer 21, the program: List, Row -/
import Derived.Test.YtieednadbcghjaaTg11
import Derived.Test.YtieednadbcghjaaTg18
import Derived.Test.YtieednadbcghjaaTg20
set_option linter.unusedSimpArgs false
set_option linter.unusedVariables false
namespace Go.Proofs.Ytieednadbcghjaa
set_option linter.unusedVariables false
open Go.RowKit Go.Lib

theorem Tc.pt {W : World} {bT : Nat} {F : Nat → Prop} {v : Value} {L : List Tp} {n : Int} (h : Tc W bT F v L n) : ∃ p c, v = .slice p L.length c ∧ L.length ≤ c ∧ c ≤ maxLen ∧ Gs encTp W p L.length L := by
  obtain ⟨p, c, h1, h2, h3, h4, _⟩ := h.row.open
  exact ⟨p, c, h1, h2, h3, h4⟩
theorem TgB.later {w W : World} {bT : Nat} {F : Nat → Prop} {v : Value} {L : List Pt} (h : TgB w bT F v L) (hb : Below w.heap.size w W) : TgB W bT F v L := by
  obtain ⟨Ls, h, h1, h2⟩ := h
  exact ⟨Ls, h.later hb, h1, h2⟩
set_option maxRecDepth 100000 in
set_option maxHeartbeats 2000000 in
theorem tget_any {w : World} {bT : Nat} {F : Nat → Prop} {v : Value} {L : List Pt} (s : ByteArray) (h : TgB w bT F v L) (hi : insLeT L 2097200) (hL : L.length ≤ 1048577) :
    Calls Try.prog 12 #[.pointer (some ⟨bT, 0, none⟩), .string s] w fun e w' => KtG w (getTR L s) e w' := by
  obtain ⟨Ls, h, rfl, hr⟩ := h
  obtain ⟨w0, hw0⟩ : ∃ W, w.alloc (.cells (tnC zeroT (.slice none 0 0)) 42) = W := ⟨_, rfl⟩
  obtain ⟨g1, hg1⟩ : ∃ x, w.heap.size = x := ⟨_, rfl⟩
  have hb0 : Below w.heap.size w w0 := by rw [← hw0]; exact (Below.refl _ _).alloc (Nat.le_refl _) _
  have hz0 : Tn w0 g1 zeroT (.slice none 0 0) := by rw [← hw0, ← hg1]; exact heap_alloc_new _ _
  have HZ0 := Lib.hid hz0
  have HB0 := Lib.hid hb0
  have HG1 := Lib.hid hg1
  have HT0 := Lib.hid (h.later hb0)
  have HLs : Hid (Ls.length ≤ 1048577) := Lib.hid (by rw [← ptP_length]; exact hL)
  have HFI := Lib.hid (findT_any s HT0.out hr HLs.out)
  have HIN := Lib.hid hi
  rw [tnZero] at hw0
  clear h hi hL hb0 hz0
  go_enter Try.func12, Try.ntmps12
  go_upto_region 4 with (go_at_call 33; refine HFI.out.mono ?_; rintro r w3 ⟨i, rfl, hat, hb3⟩)
  have HAT := Lib.hid hat
  have HB3 := Lib.hid hb3
  have HT3 := Lib.hid (HT0.out.later hb3)
  have HZ3 := Lib.hid (Tn.later HZ0.out hb3)
  have HLP := Lib.hid (ptP_length Ls)
  clear hat hb3 hw0 hg1
  cases hfd : fndT (ptP Ls) s i with
  | false =>
    have HGR : Hid (getTR (ptP Ls) s = (zeroT, false)) := Lib.hid (by unfold getTR; rw [HAT.out.getNo hr hfd])
    have HBU := Lib.hid built_tn0
    clear hfd
    go_wp2_with (first
      | (refine wpList_build_is rfl 42 _ rfl (tnC zeroT (.slice none 0 0)) ?_ ?_; focus (first | (simp only [List.map_toArray, List.map_nil]; exact HBU.out) | (simp only [Array.map_empty]; exact HBU.out) | (simp; exact HBU.out)))
      | (refine wpList_store_row rfl 42 _ _ rfl g1 (tnC zeroT (.slice none 0 0)) rfl rfl 42 _ HZ3.out (tnC_sizeOf zeroT _ rfl) rfl (tnC_one _ _ _ _) ?_; generalize hw6 : World.setRow _ _ _ = w6))
    have HM6 : Tn w6 g1 zeroT (.slice none 0 0) := by rw [← hw6]; exact Mx.row HZ3.out
    refine bodyPost_ret (HM6.res2 rfl rfl _ rfl) rfl ?_
    refine ⟨_, by rw [HGR.out]; rfl, ?_, by rw [← hw6]; exact below_setRow8 (below_step HB0.out HB3.out) _ _ (Nat.le_of_eq HG1.out)⟩
    rw [HGR.out]
    exact Gw.nil _ _ _
  | true =>
    obtain ⟨q, hq, hqn⟩ : ∃ q, Ls[i]? = some q ∧ q.x.e.nm = s := by
      unfold fndT at hfd
      cases hx : Ls[i]? with
      | none =>
        have h1 : (ptP Ls)[i]? = none := by unfold ptP; rw [List.getElem?_map, hx]; rfl
        rw [h1] at hfd
        cases hfd
      | some q =>
        rw [ptP_get hx] at hfd
        exact ⟨q, rfl, of_decide_eq_true hfd⟩
    have HGR : Hid (getTR (ptP Ls) s = (q.x.e, true)) := Lib.hid (by unfold getTR; rw [HAT.out.getIs (ptP_get hq) hqn])
    obtain ⟨p, c, rfl, hlc, hcm, hgs⟩ := HT3.out.pt
    have hil : i < Ls.length := (List.getElem?_eq_some_iff.1 hq).1
    obtain ⟨b, off, q2, rfl, hq2, hqm, cq⟩ := hgs.tp i hil
    rw [hq] at hq2
    obtain rfl := Option.some.inj hq2
    have HE := Lib.hid (HT3.out.en q hqm)
    have c0 := HT3.out.hd.cells.1
    have HLE := Lib.hid (HE.out.tn.load HE.out.dk.1)
    have HAP := Lib.hid (apartT_any q.x.e q.x.s w3 HE.out.is HE.out.dk.1 (HIN.out _ (List.mem_map.2 ⟨q, hqm, rfl⟩)))
    have HXD := Lib.hid HE.out.dk.1
    obtain ⟨n, hn⟩ : ∃ n, Ls.length = n := ⟨_, rfl⟩
    rw [hn] at c0
    obtain ⟨bq, hbq⟩ : ∃ x, q.b = x := ⟨_, rfl⟩
    rw [hbq] at cq HLE
    obtain ⟨E, hE⟩ : ∃ x, q.x.e = x := ⟨_, rfl⟩
    rw [hE] at HLE HAP HGR HXD
    unfold tnV at HAP
    obtain ⟨ME, hME⟩ : ∃ x, tnC E q.x.s = x := ⟨_, rfl⟩
    rw [hME] at HLE HAP
    have hki : (i : Int) < (n : Int) := by omega
    have hk0 : (0 : Int) ≤ (i : Int) := by omega
    clear hfd hq hqn hlc hgs hqm hbq hE hME hn HE
    go_wp2_with (first
      | (refine wpList_ld rfl 42 _ rfl _ rfl _ HLE.out ?_)
      | (go_at_call 34; refine HAP.out.mono ?_; rintro r w4 ⟨u, rfl, hg4, hb4⟩; obtain ⟨q4, d4, hv4, _⟩ := hg4.open; subst hv4; have HU4 := Lib.hid hg4; have HB4 := Lib.hid hb4; have HZ4 := Lib.hid (Tn.later HZ3.out hb4); clear hg4 hb4; unfold tnV)
      | (refine wpList_store_row rfl 42 _ _ rfl g1 (tnC E _) rfl rfl 42 _ HZ4.out (tnC_sizeOf E _ HXD.out) ((tnC_size zeroT _ rfl).trans (tnC_size E _ HXD.out).symm) (tnC_one _ _ _ _) ?_; generalize hw6 : World.setRow _ _ _ = w6))
    have HM6 : Tn w6 g1 E (.slice q4 E.ins.length d4) := by rw [← hw6]; exact Mx.row HZ4.out
    refine bodyPost_ret (HM6.res2 HXD.out rfl _ rfl) rfl ?_
    refine ⟨_, by rw [HGR.out]; rfl, ?_, by rw [← hw6]; exact below_setRow8 (below_step (below_step HB0.out HB3.out) HB4.out) _ _ (Nat.le_of_eq HG1.out)⟩
    rw [HGR.out]
    have h3 := (below_step HB0.out HB3.out).size
    have h4 : g1 < w3.heap.size := Mx.lt HZ3.out
    exact (HU4.out.holdP fun k hk => by rw [← hw6, setRow_other _ _ _ _ (by have := (HU4.out.ownlt hk).1; omega)]).mono h3
set_option maxRecDepth 100000 in
set_option maxHeartbeats 2000000 in
theorem tnames_any {w : World} {bT : Nat} {F : Nat → Prop} {v : Value} {L : List Pt} (h : TgB w bT F v L) (hL : L.length ≤ 1048577) :
    Calls Try.prog 21 #[.pointer (some ⟨bT, 0, none⟩)] w fun e w' => NamesGQ w (namesT L) e w' := by
  obtain ⟨Ls, h, rfl, hr⟩ := h
  have H := Lib.hid h
  have HLL : Hid ((ptP Ls).length = Ls.length) := Lib.hid (ptP_length Ls)
  have hnl : Ls.length ≤ 1048577 := by rw [← ptP_length]; exact hL
  obtain ⟨p, c, rfl, hlc, hcm, hgs⟩ := h.pt
  have c0 := h.hd.cells.1
  have HGS := Lib.hid hgs
  obtain ⟨n, hn⟩ : ∃ n, Ls.length = n := ⟨_, rfl⟩
  rw [hn] at c0 HGS hlc hnl HLL
  clear h hr hL hgs hn
  go_enter Try.func21, Try.ntmps21
  go_wp2
  go_loopw [3, 13] (fun o j wr => ∃ (k : Nat) (q : Option Addr) (m d : Nat), k ≤ n ∧ j = .int .i64 (k : Int) ∧ o = .slice q m d ∧ Hid (Od wr w.heap.size (.slice q m d) (namesT ((ptP Ls).take k))) ∧ Hid (Below w.heap.size w wr)) (fun _ j _ => n - (intOf j).toNat)
  case atStart => exact ⟨0, none, 0, 0, by omega, rfl, rfl, Lib.hid (by rw [show namesT ((ptP Ls).take 0) = [] by simp [namesT]]; exact Od.nil _ _), Lib.hid (Below.refl _ _)⟩
  case round =>
    obtain ⟨k, q, m, d, hkn, rfl, rfl, HO, HB⟩ := hrel
    by_cases hlt : k < n
    · obtain ⟨b1, off, y, rfl, hy1, hy3, cq⟩ := (HGS.out.later HB.out).tp k hlt
      have HE := Lib.hid ((H.out.later HB.out).en y hy3)
      obtain ⟨_, c1, _⟩ := HE.out.tn.cells HE.out.dk.1
      have HLD := Lib.hid (HE.out.tn.dig HE.out.dk.1)
      have HT := Lib.hid (namesT_take (ptP_get hy1))
      have HDK := Lib.hid HE.out.dk
      have HLK : Hid ((namesT ((ptP Ls).take k)).length ≤ 2097152) := Lib.hid (by have h1 := namesT_le (ptP Ls) k; omega)
      have hki : (k : Int) < (n : Int) := by omega
      have hk0 : (0 : Int) ≤ (k : Int) := by omega
      obtain ⟨bq, hbq⟩ : ∃ x, y.b = x := ⟨_, rfl⟩
      rw [hbq] at cq c1 HLD
      obtain ⟨d1, hd1⟩ : ∃ s, y.x.e.dg = s := ⟨_, rfl⟩
      obtain ⟨g, hg⟩ : ∃ s, y.x.e.gone = s := ⟨_, rfl⟩
      rw [hd1] at HLD HT HDK
      rw [hg] at c1 HT
      clear hy1 hy3 hd1 hg hbq HE
      cases g with
      | false =>
        rw [if_pos rfl] at HT
        go_wp2_with (first
          | (refine wpList_ld rfl 29 _ rfl _ rfl _ HLD.out ?_)
          | (refine wpList_build_dig rfl 48 26 rfl Try.underlying48 info24 d1 HDK.out.1 rfl ?_)
          | (refine wpList_append_digs rfl _ _ 48 rfl Try.underlying48 info24 w.heap.size _ _ rfl (HO.out.alloc _) _ 1 1 [d1] rfl (Od.one wr w.heap.size d1 HDK.out HB.out.size).ds (fun h => by cases h) (by have := HLK.out; omega) (by have := HB.out.size; rw [World.size_alloc]; omega) ?_; intro v8 w8 ho8 hg8; have HB8 := Lib.hid (below_new_od (HB.out.alloc HB.out.size _) (HO.out.alloc _) hg8 (by have := HB.out.size; rw [World.size_alloc]; omega)); rw [← HT.out] at ho8; obtain ⟨p8, c8, hv8, _⟩ := ho8.open; obtain ⟨mm8, hmm8⟩ : ∃ x, (namesT ((ptP Ls).take (k + 1))).length = x := ⟨_, rfl⟩; rw [hmm8] at hv8; subst hv8; have HO8 := Lib.hid ho8; clear ho8 hg8 hmm8))
        exact ⟨⟨k + 1, p8, mm8, c8, by omega, by go_num, rfl, HO8, HB8⟩, by simp [intOf] <;> omega⟩
      | true =>
        rw [if_neg (by simp)] at HT
        rw [← HT.out] at HO
        go_wp2
        exact ⟨⟨k + 1, q, m, d, by omega, by go_num, rfl, HO, HB⟩, by simp [intOf] <;> omega⟩
    · obtain rfl : k = n := by omega
      have HF : Hid ((ptP Ls).take k = ptP Ls) := Lib.hid (List.take_of_length_le (by rw [HLL.out]; exact Nat.le_refl _))
      rw [HF.out] at HO
      go_wp2
      go_ret
      obtain ⟨p9, c9, hv9, h1, h2, h3, h4, _⟩ := HO.out.open
      simp only [Value.slice.injEq] at hv9
      obtain ⟨rfl, rfl, rfl⟩ := hv9
      exact ⟨_, _, _, rfl, h3, by omega, HB.out⟩
end Go.Proofs.Ytieednadbcghjaa

namespace Go.Proofs.Ytieednadbcghjaa
set_option linter.unusedVariables false
open Go.RowKit Go.Lib

/-- the first names of a row that are there -/
def lsT (D : List Pt) (N : Int) : List ByteArray := ((D.filter fun e => !e.gone).map (·.nm)).take N.toNat
theorem lsT_take {D : List Pt} {k : Nat} {x : Pt} (h : D[k]? = some x) (N : Int) : lsT (D.take (k + 1)) N = if x.gone = false ∧ ((lsT (D.take k) N).length : Int) < N then lsT (D.take k) N ++ [x.nm] else lsT (D.take k) N := by
  obtain ⟨h2, h3⟩ := List.getElem?_eq_some_iff.1 h
  unfold lsT
  rw [List.take_succ_eq_append_getElem h2, h3, List.filter_append, List.map_append]
  generalize (((D.take k).filter fun e => !e.gone).map (·.nm)) = F
  by_cases h1 : x.gone = false
  · rw [List.filter_cons_of_pos (by simp [h1]), List.filter_nil, List.map_cons, List.map_nil]
    by_cases h6 : F.length < N.toNat
    · rw [if_pos ⟨h1, by rw [List.length_take]; omega⟩, List.take_of_length_le (l := F) (by omega), List.take_of_length_le (by rw [List.length_append, List.length_singleton]; omega)]
    · rw [if_neg (fun h => by have h7 := h.2; rw [List.length_take] at h7; omega), List.take_append_of_le_length (by omega)]
  · rw [List.filter_cons_of_neg (by simpa using h1), List.filter_nil, List.map_nil, List.append_nil, if_neg (fun h => h1 h.1)]
theorem lsT_le (D : List Pt) (N : Int) (k : Nat) : (lsT (D.take k) N).length ≤ k := by
  unfold lsT
  rw [List.length_take, List.length_map]
  have h1 := List.length_filter_le (fun e : Pt => !e.gone) (D.take k)
  rw [List.length_take] at h1
  omega
theorem lsT_stop {D : List Pt} {N : Int} {k : Nat} (h : N ≤ ((lsT (D.take k) N).length : Int)) : lsT (D.take k) N = lsT D N := by
  unfold lsT at h ⊢
  conv => rhs; rw [← List.take_append_drop k D, List.filter_append, List.map_append]
  generalize (((D.take k).filter fun e => !e.gone).map (·.nm)) = F at *
  rw [List.length_take] at h
  rw [List.take_append_of_le_length (by omega)]
theorem Gs.sliceTp {W : World} {p : Option Addr} {n : Nat} {L : List Tp} (h : Gs encTp W p n L) (c i : Nat) (hnc : n ≤ c) (hi : i ≤ n) :
    ∃ p', (∀ W', (Instr.slice 62 (.slice p n c) (some (.int .i64 (i : Int))) none none).run Try.prog W' = .ok (.slice p' (n - i) (c - i)) W') ∧ Gs encTp W p' (n - i) (L.drop i) := by
  have ht : Try.prog.underlying 62 = some (.slice 68) := Try.underlying62
  have ht' : Try.prog.underlying 62 = some (.slice (Try.prog.elem 62)) := by simp [Program.elem, ht]
  have he : Try.prog.elem 62 = 68 := by simp [Program.elem, ht]
  refine ⟨_, fun W' => by rw [run_slice_l W' 62 _ _ _ ht' .i64 _ (by omega) (by omega), he, sizeTp]; rfl, ?_⟩
  simp only [Int.toNat_natCast, Nat.mul_one]
  have hl := h.len
  by_cases e0 : n - i = 0
  · rw [e0, List.drop_of_length_le (by omega)]
    exact Gs.empty _ _ _
  · rcases h.2 with h0 | ⟨b, o, rfl, hc⟩
    · omega
    · rw [if_neg (by omega)]
      have := h.dropTp i hi
      by_cases h0 : i = 0
      · subst h0; simpa [Addr.add] using this
      · simpa [Addr.add, h0] using this
set_option maxRecDepth 100000 in
set_option maxHeartbeats 2000000 in
theorem tlist_any {w : World} {bT : Nat} {F : Nat → Prop} {v : Value} {L : List Pt} (s : ByteArray) (N : Int) (h : TgB w bT F v L) (hL : L.length ≤ 1048577) :
    Calls Try.prog 18 #[.pointer (some ⟨bT, 0, none⟩), .string s, .int .i64 N] w fun e w' => ListGQ w F (listT L s N) e w' := by
  obtain ⟨Ls, h, rfl, hr⟩ := h
  obtain ⟨w1, hw1⟩ : ∃ W, w.alloc (.cells #[.string s] 9) = W := ⟨_, rfl⟩
  have hb1 : Below w.heap.size w w1 := by rw [← hw1]; exact (Below.refl _ _).alloc (Nat.le_refl _) _
  have hcs : w1.cell? ⟨w.heap.size, 0, none⟩ = some (.string s) := by rw [← hw1]; exact cell_of_row _ _ 0 _ _ _ (heap_alloc_new _ _)
  have H1 := Lib.hid (h.later hb1)
  have HB1 := Lib.hid hb1
  have HF := Lib.hid (firstL_any s w.heap.size H1.out hcs hr (by rw [← ptP_length]; exact hL))
  have HLP := Lib.hid (ptP_length Ls)
  have hnl : Ls.length ≤ 1048577 := by rw [← ptP_length]; exact hL
  clear h hr hL hb1 hcs
  go_enter Try.func18, Try.ntmps18
  go_upto_region 5 with (go_at_call 36; refine HF.out.mono ?_; rintro e w3 ⟨i, rfl, h1, h2, h3, hb3⟩; have HLE := Lib.hid h1; have HLO := Lib.hid h2; have HHI := Lib.hid h3; have HB3 := Lib.hid hb3; clear h1 h2 h3 hb3)
  have HT3 := Lib.hid (H1.out.later HB3.out)
  have HBB := Lib.hid (below_step HB1.out HB3.out)
  have c0 := HT3.out.hd.cells.1
  obtain ⟨p, c, rfl, hlc, hcm, hg⟩ := HT3.out.pt
  obtain ⟨n, hn⟩ : ∃ n, Ls.length = n := ⟨_, rfl⟩
  rw [hn] at c0 hlc hg HLP hnl
  have HN := Lib.hid hn
  have hile : i ≤ n := by rw [← HLP.out]; exact HLE.out
  obtain ⟨p', hsl, hgd⟩ := hg.sliceTp c i hlc hile
  have HGD := Lib.hid hgd
  obtain ⟨D, hD⟩ : ∃ D, Ls.drop i = D := ⟨_, rfl⟩
  rw [hD] at HGD
  have HLI : Hid (listT (ptP Ls) s N = lsT (ptP D) N) := Lib.hid (by
    unfold listT lsT
    rw [filter_from HLO.out HHI.out, ← hD, ptP_drop])
  have HDM : Hid (∀ q ∈ D, q ∈ Ls) := Lib.hid fun q hq => by rw [← hD] at hq; exact List.mem_of_mem_drop hq
  obtain ⟨d, hd⟩ : ∃ d, n - i = d := ⟨_, rfl⟩
  rw [hd] at hsl HGD
  have hdl : d ≤ 1048577 := by omega
  have HDL : Hid (D.length = d) := Lib.hid HGD.out.len
  clear hw1 hn hg hgd hD hd hlc
  go_wp2
  go_loopw [7, 23] (fun o j wr => ∃ (k : Nat) (q : Option Addr) (m z : Nat), k ≤ d ∧ j = .int .i64 (k : Int) ∧ o = .slice q m z ∧ Hid (Gw encS wr w3.heap.size (.slice q m z) (lsT ((ptP D).take k) N)) ∧ Hid (Below w3.heap.size w3 wr)) (fun _ j _ => d - (intOf j).toNat)
  case atStart => exact ⟨0, none, 0, 0, by omega, rfl, rfl, Lib.hid (by rw [show lsT ((ptP D).take 0) N = [] by simp [lsT]]; exact Gw.nil _ _ _), Lib.hid (Below.refl _ _)⟩
  case round =>
    obtain ⟨k, q, m, z, hkn, rfl, rfl, HO, HB⟩ := hrel
    by_cases hlt : k < d
    · obtain ⟨b1, off, y, rfl, hy1, hy3, cq⟩ := (HGD.out.later HB.out).tp k hlt
      have HE := Lib.hid ((HT3.out.later HB.out).en y (HDM.out y hy3))
      obtain ⟨cn, c1, _⟩ := HE.out.tn.cells HE.out.dk.1
      have HT := Lib.hid (lsT_take (ptP_get hy1) N)
      have hml := HO.out.len
      have HOL : Hid ((lsT ((ptP D).take k) N).length + 1 ≤ 2097216) := Lib.hid (by have h1 := lsT_le (ptP D) N k; omega)
      have HST := Lib.hid (lsT_stop (D := ptP D) (N := N) (k := k))
      have hki : (k : Int) < (d : Int) := by omega
      have hk0 : (0 : Int) ≤ (k : Int) := by omega
      obtain ⟨bq, hbq⟩ : ∃ x, y.b = x := ⟨_, rfl⟩
      rw [hbq] at cq c1 cn
      obtain ⟨ny, hny⟩ : ∃ x, y.x.e.nm = x := ⟨_, rfl⟩
      obtain ⟨g, hgo⟩ : ∃ x, y.x.e.gone = x := ⟨_, rfl⟩
      rw [hny] at cn HT
      rw [hgo] at c1 HT
      rw [hml] at HT HST
      obtain ⟨O, hO⟩ : ∃ O, lsT ((ptP D).take k) N = O := ⟨_, rfl⟩
      rw [hO] at HT HO HOL HST
      clear hy1 hy3 hbq hny hgo hml hO HE
      by_cases hN : N ≤ (m : Int)
      · have HFI := Lib.hid (HST.out hN)
        go_wp2
        go_ret
        rw [HFI.out] at HO
        obtain ⟨p9, c9, hv9, h1, h2, h3, h4⟩ := HO.out.open
        simp only [Value.slice.injEq] at hv9
        obtain ⟨rfl, hm, rfl⟩ := hv9
        rw [← hm] at h1 h3
        refine ⟨q, m, z, rfl, by rw [HLI.out]; exact h3, fun _ b o e => Or.inr ?_, h4, h1, h2, below_step HBB.out HB.out⟩
        have := (HO.out.ownlt (b := b) (by rw [e]; rfl)).1
        exact Nat.le_trans HBB.out.size this
      · have hmN : (m : Int) < N := by omega
        cases g with
        | true =>
          rw [if_neg (by simp)] at HT
          rw [← HT.out] at HO
          go_wp2
          exact ⟨⟨k + 1, q, m, z, by omega, by go_num, rfl, HO, HB⟩, by simp [intOf] <;> omega⟩
        | false =>
          rw [if_pos ⟨rfl, hmN⟩] at HT
          go_wp2_with (refine wpList_append_gen encS rfl _ _ 51 rfl Try.underlying51 (.string ⟨#[]⟩) 16 infoS rfl (by decide) w3.heap.size _ O rfl (HO.out.alloc (.cells #[.string ny] 9)) _ 1 1 [ny] rfl (Gs.one encS _ ny _ rfl _ _) (fun h => by cases h) HOL.out (by have h1 := HB.out.size; rw [World.size_alloc]; omega) ?_; intro v8 w8 ho8 hg8; have HB8 := Lib.hid (below_new_gw (HB.out.alloc HB.out.size _) (HO.out.alloc _) hg8 (by have h1 := HB.out.size; rw [World.size_alloc]; omega)); rw [← HT.out] at ho8; obtain ⟨p8, c8, hv8, _⟩ := ho8.open; obtain ⟨m8, hm8⟩ : ∃ x, List.length (lsT ((ptP D).take (k + 1)) N) = x := ⟨_, rfl⟩; rw [hm8] at hv8; subst hv8; have HO8 := Lib.hid ho8; clear ho8 hg8 hm8)
          exact ⟨⟨k + 1, p8, m8, c8, by omega, by go_num, rfl, HO8, HB8⟩, by simp [intOf] <;> omega⟩
    · obtain rfl : k = d := by omega
      have HF2 : Hid ((ptP D).take k = ptP D) := Lib.hid (List.take_of_length_le (by rw [ptP_length, HDL.out]; exact Nat.le_refl _))
      rw [HF2.out] at HO
      go_wp2
      go_ret
      obtain ⟨p9, c9, hv9, h1, h2, h3, h4⟩ := HO.out.open
      simp only [Value.slice.injEq] at hv9
      obtain ⟨rfl, hm, rfl⟩ := hv9
      rw [← hm] at h1 h3
      refine ⟨q, m, z, rfl, by rw [HLI.out]; exact h3, fun _ b o e => Or.inr ?_, h4, h1, h2, below_step HBB.out HB.out⟩
      have := (HO.out.ownlt (b := b) (by rw [e]; rfl)).1
      exact Nat.le_trans HBB.out.size this
theorem take_snoc {L : List Pt} {k : Nat} {x : Pt} (h : L[k]? = some x) : L.take (k + 1) = L.take k ++ [x] := by
  obtain ⟨h5, h6⟩ := List.getElem?_eq_some_iff.1 h
  rw [List.take_succ_eq_append_getElem h5, h6]
set_option maxRecDepth 100000 in
set_option maxHeartbeats 4000000 in
theorem trow_any {w : World} {bT : Nat} {F : Nat → Prop} {v : Value} {L : List Pt} (h : TgB w bT F v L) (hi : insLeT L 2097200) (hL : L.length ≤ 1048577) :
    Calls Try.prog 23 #[.pointer (some ⟨bT, 0, none⟩)] w fun e w' => RowGQ w F L e w' := by
  obtain ⟨Ls, h, rfl, hr⟩ := h
  have H := Lib.hid h
  have HIN := Lib.hid hi
  have HLL : Hid ((ptP Ls).length = Ls.length) := Lib.hid (ptP_length Ls)
  have hnl : Ls.length ≤ 1048577 := by rw [← ptP_length]; exact hL
  obtain ⟨p, c, rfl, hlc, hcm, hgs⟩ := h.pt
  have c0 := h.hd.cells.1
  have HGS := Lib.hid hgs
  obtain ⟨n, hn⟩ : ∃ n, Ls.length = n := ⟨_, rfl⟩
  rw [hn] at c0 HGS hlc hnl HLL
  clear h hr hL hgs hn hi
  go_enter Try.func23, Try.ntmps23
  go_wp2
  go_loopw [3, 13] (fun ov j wr => ∃ (k : Nat) (q : Option Addr) (m d : Nat) (o : List Tx), k ≤ n ∧ j = .int .i64 (k : Int) ∧ ov = .slice q m d ∧ Hid (ptL o = (ptP Ls).take k) ∧ Hid (Gw encTn wr w.heap.size (.slice q m d) o) ∧ Hid (∀ x ∈ o, dok x.e.dg ∧ Gw encI wr w.heap.size x.s x.e.ins) ∧ Hid (Below w.heap.size w wr)) (fun _ j _ => n - (intOf j).toNat)
  case atStart => exact ⟨0, none, 0, 0, [], by omega, rfl, rfl, Lib.hid rfl, Lib.hid (Gw.nil _ _ _), Lib.hid (fun x hx => by cases hx), Lib.hid (Below.refl _ _)⟩
  case round =>
    obtain ⟨k, q, m, d, o, hkn, rfl, rfl, HE, HO, HM, HB⟩ := hrel
    by_cases hlt : k < n
    · obtain ⟨b1, off, y, rfl, hy1, hy3, cq⟩ := (HGS.out.later HB.out).tp k hlt
      have HY := Lib.hid ((H.out.later HB.out).en y hy3)
      have HLY := Lib.hid (HY.out.tn.load HY.out.dk.1)
      have HAP := Lib.hid (apartT_any y.x.e y.x.s wr HY.out.is HY.out.dk.1 (HIN.out _ (List.mem_map.2 ⟨y, hy3, rfl⟩)))
      have HT := Lib.hid (take_snoc (ptP_get hy1))
      have HXD := Lib.hid HY.out.dk
      have HOL : Hid (o.length + 1 ≤ 2097216) := Lib.hid (by have h5 := congrArg List.length HE.out; rw [ptL_length, List.length_take] at h5; omega)
      have hki : (k : Int) < (n : Int) := by omega
      have hk0 : (0 : Int) ≤ (k : Int) := by omega
      obtain ⟨bq, hbq⟩ : ∃ x, y.b = x := ⟨_, rfl⟩
      rw [hbq] at cq HLY
      obtain ⟨E, hE⟩ : ∃ x, y.x.e = x := ⟨_, rfl⟩
      rw [hE] at HLY HAP HT HXD
      unfold tnV at HAP
      obtain ⟨ME, hME⟩ : ∃ x, tnC E y.x.s = x := ⟨_, rfl⟩
      rw [hME] at HLY HAP
      clear hy1 hy3 hbq hE hME HY
      go_wp2_with (first
        | (refine wpList_ld rfl 42 _ rfl _ rfl _ HLY.out ?_)
        | (go_at_call 34
           refine HAP.out.mono ?_
           rintro r w4 ⟨u, rfl, hg4, hb4⟩
           obtain ⟨q4, d4, hv4, _⟩ := hg4.open
           subst hv4
           have HXG : Hid (Gw encI w4 w.heap.size (.slice q4 E.ins.length d4) E.ins) := Lib.hid (hg4.mono HB.out.size)
           have HO4 := Lib.hid (HO.out.later hb4)
           have HM4 : Hid (∀ x ∈ o, dok x.e.dg ∧ Gw encI w4 w.heap.size x.s x.e.ins) := (Lib.hid (fun x hx => ⟨(HM.out x hx).1, (HM.out x hx).2.later hb4⟩))
           have HB4 := Lib.hid (below_step HB.out hb4)
           obtain ⟨X, hX⟩ : ∃ X : Tx, X = ⟨E, q4, d4, HXD.out.1⟩ := ⟨_, rfl⟩
           have HXE : Hid (X.e = E ∧ X.s = .slice q4 E.ins.length d4) := (Lib.hid (by rw [hX]; exact ⟨rfl, rfl⟩))
           have HE2 : Hid (ptL (o ++ [X]) = (ptP Ls).take (k + 1)) := (Lib.hid (by rw [HT.out, ptL_append, HE.out, ← HXE.out.1]; rfl))
           clear hg4 hb4 hX
           unfold tnV)
        | (refine wpList_build_tn rfl 22 21 rfl Try.underlying22 X (by rw [HXE.out.1, HXE.out.2]; rfl) ?_)
        | (refine wpList_append_gen encTn rfl _ _ 22 rfl Try.underlying22 tzero 104 infoTn tzero_size (by decide) w.heap.size _ o rfl (HO4.out.alloc _) _ 1 1 [X] rfl (Gs.oneTn _ X) (fun h => by cases h) HOL.out (by have h1 := HB4.out.size; rw [World.size_alloc]; omega) ?_
           intro v8 w8 ho8 hg8
           obtain ⟨p8, c8, hv8, _⟩ := ho8.open
           obtain ⟨m8, hm8⟩ : ∃ x, (o ++ [X]).length = x := ⟨_, rfl⟩
           rw [hm8] at hv8
           subst hv8
           have HO8 := Lib.hid ho8
           have HB8 := Lib.hid (below_appT (HB4.out.alloc HB4.out.size (.cells (tnC X.e X.s) 42)) (HO4.out.alloc _) (Nat.le_refl _) hg8)
           have HM8 : Hid (∀ x ∈ o ++ [X], dok x.e.dg ∧ Gw encI w8 w.heap.size x.s x.e.ins) := (Lib.hid (fun x hx => (List.mem_append.1 hx).elim (fun h => ⟨(HM4.out x h).1, ((HM4.out x h).2.alloc _).besideTn (HO4.out.alloc _) hg8⟩) (fun h => by rw [List.mem_singleton.1 h]; exact ⟨(by rw [HXE.out.1]; exact HXD.out), ((show Gw encI w4 w.heap.size X.s X.e.ins by rw [HXE.out.1, HXE.out.2]; exact HXG.out).alloc _).besideTn (HO4.out.alloc _) hg8⟩)))
           clear ho8 hg8 hm8))
      exact ⟨⟨k + 1, p8, m8, c8, o ++ [X], by omega, by go_num, rfl, HE2, HO8, HM8, HB8⟩, by simp [intOf] <;> omega⟩
    · obtain rfl : k = n := by omega
      have HF : Hid (ptL o = ptP Ls) := Lib.hid (by have h1 := HE.out; rwa [List.take_of_length_le (by rw [HLL.out]; exact Nat.le_refl _)] at h1)
      go_wp2
      go_ret
      obtain ⟨q9, d9, hv9, h5, h6, h7, h8⟩ := gwTn_open HO.out
      simp only [Value.slice.injEq] at hv9
      obtain ⟨rfl, rfl, rfl⟩ := hv9
      refine ⟨_, _, _, o, _, rfl, HF.out, (ReT.none w).next HB.out HO.out.gs (fun _ b off e => Or.inr (h8 b off e)) (fun x hx => Or.inr (HM.out x hx)), fun b hb => ?_, h7, h5, h6, HB.out⟩
      rcases hb with hb | hb
      · exact hb.elim
      · exact Or.inr hb.1
end Go.Proofs.Ytieednadbcghjaa
