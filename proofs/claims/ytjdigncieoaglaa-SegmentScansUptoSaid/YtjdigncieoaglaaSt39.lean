/- Layer 15, the reference: Make; Layer 16, the reference: Build -/
import Derived.Test.YtjdigncieoaglaaSt11
import Derived.Test.YtjdigncieoaglaaSt14
import Derived.Test.YtjdigncieoaglaaSt24
import Derived.Test.YtjdigncieoaglaaSt38
set_option linter.unusedSimpArgs false
set_option linter.unusedVariables false
namespace Go.Proofs.Ytjdigncieoaglaa
set_option linter.unusedVariables false
open Go.RowKit Go.Lib

theorem framesN_bound {l : List Rc} (h : ∀ r ∈ l, r.Ok) (s : Int) : (framesN l s).length ≤ 65557 * l.length := by
  induction l generalizing s with
  | nil => simp [framesN]
  | cons r l ih =>
    have h1 := ih (fun x hx => h x (by simp [hx])) (s + 1)
    have h2 := makeN_length ((h r (by simp)).num s)
    simp only [framesN, List.length_append, List.length_cons]
    omega
theorem framesN_succ {l : List Rc} {k : Nat} {r : Rc} (hr : l[k]? = some r) (s : Int) : framesN (l.take (k + 1)) s = framesN (l.take k) s ++ makeN (r.num (s + k)) := by
  have hk := (List.getElem?_eq_some_iff.1 hr).1
  have e : l.take (k + 1) = l.take k ++ [r] := by
    rw [List.take_add_one, hr]; rfl
  rw [e, framesN_append, List.length_take, Nat.min_eq_left (by omega)]
  simp [framesN]
/-- a commit, as a record in memory -/
def cmQ (s : Int) (n z : Nat) : Rq := ⟨6, s, dg0, ⟨#[]⟩, none, 0, 0, [], (n : Int), (z : Int)⟩
theorem cmQ_fit {s : Int} {n z : Nat} (hs : 0 ≤ s ∧ s < 18446744073709551616) (hn : n ≤ 140737488355328) (hz : z ≤ 140737488355328) (w : World) : (cmQ s n z).Fit w :=
  ⟨Bs.empty _ _, fun _ => rfl, Nat.le_refl _, Nat.zero_le _, dok_zero, (Nat.zero_le 140737488355328 : (0 : Nat) ≤ 140737488355328), hs, by show _ ≤ (6 : Int) ∧ (6 : Int) ≤ _; omega, by show _ ≤ (n : Int) ∧ (n : Int) ≤ _; omega, by show _ ≤ (z : Int) ∧ (z : Int) ≤ _; omega⟩
theorem cmQ_rc (s : Int) (n z : Nat) : (cmQ s n z).rc = commitN s n z := rfl

set_option maxRecDepth 100000 in
set_option maxHeartbeats 4000000 in
theorem rmake15_any (p : Option Addr) (n c : Nat) (L : List Rx) (s : Int) (w : World) (h : Gs encRc w p n L) (hf : ∀ x ∈ L, x.1.Fit w) (hn : n ≤ 1048576) (hs : 0 ≤ s ∧ s < 18446744073709551616) :
    Calls Try.prog 27 #[.slice p n c, .int .u64 s] w fun e w' => ∃ v, e = .returned (.tuple #[v, .int .u64 (bmS (rcL L) s), .int .i64 (bmE (rcL L) s)]) ∧ Ob w' w.heap.size 5 v (bmB (rcL L) s) ∧ Below w.heap.size w w' := by
  have H := Lib.hid h
  have HF := Lib.hid hf
  have HLR : Hid ((rcL L).length = n) := Lib.hid (by rw [rcL_length, h.len])
  have HOK := Lib.hid (rcL_ok hf)
  have HW := Lib.hid fun V (hV : Below w.heap.size w V) => rwrong_any p n c L V (h.later hV) (fun x hx => (hf x hx).later hV) hn
  have HE : Hid (bmE (rcL L) s = if wrongN (rcL L) ≠ 0 then wrongN (rcL L) else if s + n + 1 > 18446744073709551615 then 20 else 0) := Lib.hid (by unfold bmE; rw [HLR.out])
  have HBB : Hid (bmB (rcL L) s = if bmE (rcL L) s = 0 then batN (rcL L) s else []) := Lib.hid rfl
  have HSS : Hid (bmS (rcL L) s = if bmE (rcL L) s = 0 then s + n + 1 else s) := Lib.hid (by unfold bmS; rw [HLR.out])
  generalize bmE (rcL L) s = E at *
  generalize bmB (rcL L) s = FB at *
  generalize bmS (rcL L) s = NS at *
  obtain ⟨R, hR⟩ : ∃ R, wrongN (rcL L) = R := ⟨_, rfl⟩
  rw [hR] at HW HE
  have hwn : IntKind.u64.wrap (n : Int) = (n : Int) := wrap_u64_in (by omega) (by omega)
  have HWZ := Lib.hid (fun (hz : R = 0) => wrongN_zero (hR.trans hz))
  clear h hf hR
  by_cases hz : R = 0
  · subst hz
    rw [if_neg (by simp)] at HE
    have HNE : Hid (0 < n) := Lib.hid (by
      have h1 := (HWZ.out rfl).1
      rw [← HLR.out]
      exact List.length_pos_iff.2 h1)
    by_cases hov : s + n + 1 > 18446744073709551615
    · rw [if_pos hov] at HE
      obtain ⟨A, hA⟩ : ∃ A, IntKind.u64.wrap (s + (n : Int)) = A := ⟨_, rfl⟩
      obtain ⟨B, hB⟩ : ∃ B, IntKind.u64.wrap (A + 1) = B := ⟨_, rfl⟩
      have hle : B ≤ s := by
        rw [← hB, ← hA]
        simp [IntKind.wrap, IntKind.bits, IntKind.signed]
        omega
      clear hov
      go_enter Try.func27, Try.ntmps27
      go_wp2_with (go_at_call 41; refine (HW.out _ (Below.refl _ _)).mono ?_; rintro e w1 ⟨rfl, hb1⟩; have HB1 := Lib.hid hb1; clear hb1)
      go_ret3
      refine ⟨.slice none 0 0, ?_, by rw [HBB.out, if_neg (by rw [HE.out]; omega)]; exact Ob.nil _ _ _, HB1.out⟩
      rw [HSS.out, if_neg (by rw [HE.out]; omega), HE.out]
      rfl
    · rw [if_neg hov] at HE
      have hA : IntKind.u64.wrap (s + (n : Int)) = s + n := wrap_u64_in (by omega) (by omega)
      have hB : IntKind.u64.wrap (s + (n : Int) + 1) = s + n + 1 := wrap_u64_in (by omega) (by omega)
      have hgt : ¬ (s + (n : Int) + 1 ≤ s) := by omega
      obtain ⟨b, off, rfl, _⟩ := H.out.ptr 0 HNE.out
      go_enter Try.func27, Try.ntmps27
      go_wp2_with (go_at_call 41; refine (HW.out _ (Below.refl _ _)).mono ?_; rintro e w1 ⟨rfl, hb1⟩; have HB1 := Lib.hid hb1; clear hb1)
      go_loopw [7, 8] (fun v i wr => ∃ k : Nat, k ≤ n ∧ i = .int .i64 (k : Int) ∧ Hid (Ob wr w.heap.size 5 v (framesN ((rcL L).take k) s)) ∧ Hid (Below w.heap.size w wr)) (fun _ i _ => n - (intOf i).toNat)
      case atStart => exact ⟨0, by omega, rfl, Lib.hid (by simpa [framesN] using Ob.nil _ _ _), HB1⟩
      case round =>
        obtain ⟨k, hk, rfl, HO, HB⟩ := hrel
        by_cases hlt : k < n
        · obtain ⟨x, hLk, hRk, hxm, _, hrng⟩ := (H.out.later HB.out).recAt k hlt
          have hki : (k : Int) < (n : Int) := by omega
          have hwk : IntKind.u64.wrap (k : Int) = (k : Int) := wrap_u64_in (by omega) (by omega)
          have hsk : IntKind.u64.wrap (s + (k : Int)) = s + k := wrap_u64_in (by omega) (by omega)
          have HRG := Lib.hid (rec_load hrng)
          have HFX := Lib.hid fun V (hV : Below w.heap.size w V) => (HF.out x hxm).later hV
          have HFS := Lib.hid (framesN_succ hRk s)
          have HLB : Hid ((framesN ((rcL L).take k) s).length ≤ 65557 * 1048576) := Lib.hid (by
            have h1 := framesN_bound (l := (rcL L).take k) (fun r hr => HOK.out r (List.mem_of_mem_take hr)) s
            rw [List.length_take, HLR.out] at h1
            have : min k n = k := Nat.min_eq_left (by omega)
            rw [this] at h1
            omega)
          have HXD := Lib.hid x.2
          obtain ⟨g, hg⟩ : ∃ g, wr.heap.size = g := ⟨_, rfl⟩
          have HGW : Hid (w.heap.size ≤ g) := Lib.hid (by rw [← hg]; exact HB.out.size)
          have HNW : Hid (∀ Z : Obj, (wr.alloc Z).heap[g]? = some Z) := Lib.hid fun Z => by rw [← hg]; exact heap_alloc_new _ _
          have HSG := Lib.hid hg
          clear hrng hLk hRk
          go_upto_region 10 with (first
            | (refine wpList_ld rfl _ _ rfl _ rfl _ HRG.out ?_)
            | (refine wpList_store_row rfl 29 _ _ rfl g _ rfl rfl 29 _ (HNW.out _) (Rq.sizeOf x.1 HXD.out) (Rq.sizes rq0 x.1 rfl HXD.out) x.1.one ?_; generalize hw2 : World.setRow _ _ _ = w2))
          have HR2 : Hid (Rm w2 g x.1) := Lib.hid (by rw [← hw2]; exact Mx.row (show Rm (wr.alloc (.cells (mixC rq0.a rq0.dg rq0.z) 29)) g rq0 from HNW.out _))
          have HB2 : Hid (Below w.heap.size w w2) := Lib.hid (by rw [← hw2]; exact below_setRow8 (HB.out.alloc HB.out.size _) _ _ HGW.out)
          have HBG : Hid (Below wr.heap.size wr w2) := Lib.hid (by rw [← hw2]; exact below_setRow8 ((Below.refl _ _).alloc (Nat.le_refl _) _) _ _ (by rw [HSG.out]; exact Nat.le_refl _))
          have cl1 := (HR2.out.cells HXD.out).2.1
          have fr1 := Mx.frozen HR2.out 1
          obtain ⟨w3, hw3⟩ : ∃ W, w2.setCell ⟨g, 1, none⟩ (.int .u64 (s + k)) = W := ⟨_, rfl⟩
          obtain ⟨X, hX⟩ : ∃ X, { x.1 with s := s + k } = X := ⟨_, rfl⟩
          have HX := Lib.hid hX
          have HXD2 : Hid (X.dg.length = 32) := Lib.hid (by rw [← hX]; exact HXD.out)
          have HR3 : Hid (Rm w3 g X) := Lib.hid (by rw [← hw3, ← hX]; exact HR2.out.setS _)
          have HB3 : Hid (Below w.heap.size w w3) := Lib.hid (by rw [← hw3]; exact HB2.out.setCell (p := ⟨g, 1, none⟩) HGW.out _)
          have HBG3 : Hid (Below wr.heap.size wr w3) := Lib.hid (by rw [← hw3]; exact HBG.out.setCell (p := ⟨g, 1, none⟩) (by rw [HSG.out]; exact Nat.le_refl _) _)
          have HFT : Hid (X.Fit w3) := Lib.hid (by
            have h1 := HFX.out _ HB3.out
            rw [← hX]
            exact ⟨h1.bs, h1.pc, h1.nc, h1.cm, h1.dg, h1.nm, by show 0 ≤ s + (k : Int) ∧ s + (k : Int) < _; omega, h1.k, h1.N, h1.Z⟩)
          have HRC : Hid (X.rc = x.1.rc.num (s + k)) := Lib.hid (by rw [← hX]; rfl)
          have HML : Hid ((makeN X.rc).length ≤ 65557) := Lib.hid (makeN_length HFT.out.ok)
          have HMK := Lib.hid (rmake14_any X w3 HFT.out)
          rw [← HRC.out] at HFS
          unfold Rq.v at HMK
          obtain ⟨F, hF⟩ : ∃ F, makeN X.rc = F := ⟨_, rfl⟩
          rw [hF] at HMK HML HFS
          obtain ⟨FN, hFN⟩ : ∃ m, F.length = m := ⟨_, rfl⟩
          have HFN := Lib.hid hFN
          rw [hFN] at HML
          have hml := HML.out
          obtain ⟨G, hG⟩ : ∃ G, framesN ((rcL L).take k) s = G := ⟨_, rfl⟩
          rw [hG] at HO HFS HLB
          clear hX hw2 hF hFN hG
          go_wp2_with (first
            | (refine wpList_ld rfl _ _ rfl _ rfl _ (HR3.out.load HXD2.out) ?_)
            | (go_at_call 7; refine HMK.out.mono ?_; rintro e w4 ⟨v4, rfl, ho4, hb4⟩; have HB4 := Lib.hid (below_step HB3.out hb4); have HO4 := Lib.hid (HO.out.later (below_step HBG3.out hb4)); obtain ⟨p4, c4, hv4, hlc4, hcm4, hbs4, hpc4⟩ := ho4.open; rw [HFN.out] at hv4 hlc4 hbs4; subst hv4; have HD4 := Lib.hid hbs4; have HP4 := Lib.hid hpc4; clear ho4 hb4 hbs4 hpc4 hlc4 hcm4)
            | (refine wpList_append_bytes rfl _ _ 23 5 rfl Try.underlying23 info8 w.heap.size _ G rfl HO4.out p4 FN c4 F rfl HD4.out HP4.out (by have := HLB.out; omega) HB4.out.size ?_; intro v5 w5 ho5 hg5; have HB5 := Lib.hid (below_new HB4.out HO4.out hg5 HB4.out.size); rw [← HFS.out] at ho5; have HO5 := Lib.hid ho5; clear ho5 hg5))
          exact ⟨⟨k + 1, by omega, by go_num, HO5, HB5⟩, by simp [intOf] <;> omega⟩
        · obtain rfl : k = n := by omega
          rw [show (rcL L).take k = rcL L from List.take_of_length_le (by rw [HLR.out]; exact Nat.le_refl _)] at HO
          have HLB : Hid ((framesN (rcL L) s).length ≤ 65557 * 1048576) := Lib.hid (by
            have h1 := framesN_bound (l := rcL L) HOK.out s
            rw [HLR.out] at h1
            omega)
          have HBT : Hid (batN (rcL L) s = framesN (rcL L) s ++ makeN (cmQ (s + k) k (framesN (rcL L) s).length).rc) := Lib.hid (by rw [cmQ_rc]; unfold batN; rw [HLR.out])
          obtain ⟨G, hG⟩ : ∃ G, framesN (rcL L) s = G := ⟨_, rfl⟩
          rw [hG] at HO HLB HBT
          obtain ⟨GN, hGN⟩ : ∃ m, G.length = m := ⟨_, rfl⟩
          have HGN := Lib.hid hGN
          rw [hGN] at HLB HBT
          obtain ⟨p1, c1, hv1, hlc1, hcm1, hbs1, hpc1⟩ := HO.out.open
          rw [hGN] at hv1 hlc1 hbs1
          subst hv1
          have hgn := HLB.out
          obtain ⟨X, hX⟩ : ∃ X, cmQ (s + k) k GN = X := ⟨_, rfl⟩
          have HX := Lib.hid hX
          have HFT : Hid (∀ W, X.Fit W) := Lib.hid fun W => by rw [← hX]; exact cmQ_fit (by omega) (by omega) (by omega) W
          have HMK := Lib.hid (rmake14_any X wr (HFT.out wr))
          rw [hX] at HBT
          have HML : Hid ((makeN X.rc).length ≤ 65557) := Lib.hid (makeN_length (HFT.out wr).ok)
          unfold Rq.v at HMK
          rw [← hX] at HMK
          obtain ⟨F, hF⟩ : ∃ F, makeN X.rc = F := ⟨_, rfl⟩
          rw [hF] at HML HBT
          rw [hX] at HMK
          rw [hF] at HMK
          obtain ⟨FN, hFN⟩ : ∃ m, F.length = m := ⟨_, rfl⟩
          have HFN := Lib.hid hFN
          rw [hFN] at HML
          have hml := HML.out
          clear hF hFN hG hGN hbs1 hpc1 hlc1 hcm1 hlt
          rw [← hX] at HMK
          clear hX
          go_wp2_with (first
            | (refine wpList_build_is rfl 29 _ rfl (mixC (cmQ (s + k) k GN).a (cmQ (s + k) k GN).dg (cmQ (s + k) k GN).z) ?_ ?_; kernel_rfl)
            | (go_at_call 7; refine HMK.out.mono ?_; rintro e w4 ⟨v4, rfl, ho4, hb4⟩; have HB4 := Lib.hid (below_step HB.out hb4); have HO4 := Lib.hid (HO.out.later hb4); obtain ⟨p4, c4, hv4, hlc4, hcm4, hbs4, hpc4⟩ := ho4.open; rw [HFN.out] at hv4 hlc4 hbs4; subst hv4; have HD4 := Lib.hid hbs4; have HP4 := Lib.hid hpc4; clear ho4 hb4 hbs4 hpc4 hlc4 hcm4)
            | (refine wpList_append_bytes rfl _ _ 23 5 rfl Try.underlying23 info8 w.heap.size _ G rfl HO4.out p4 FN c4 F rfl HD4.out HP4.out (by have := HLB.out; have := HGN.out; omega) HB4.out.size ?_; intro v5 w5 ho5 hg5; have HB5 := Lib.hid (below_new HB4.out HO4.out hg5 HB4.out.size); rw [← HBT.out] at ho5; have HO5 := Lib.hid ho5; clear ho5 hg5))
          go_ret3
          refine ⟨_, ?_, by rw [HBB.out, if_pos HE.out]; exact HO5.out, HB5.out⟩
          rw [HSS.out, if_pos HE.out, HE.out]
          rfl
  · rw [if_pos hz] at HE
    have hne : (R != 0) = true := by simpa using hz
    go_enter Try.func27, Try.ntmps27
    go_wp2_with (first
      | (go_at_call 41; (fail_if_success (have hh := HB1.out)); refine (HW.out _ (Below.refl _ _)).mono ?_; rintro e w1 ⟨rfl, hb1⟩; have HB1 := Lib.hid hb1; clear hb1)
      | (go_at_call 41; refine (HW.out _ HB1.out).mono ?_; rintro e w2 ⟨rfl, hb2⟩; have HB2 := Lib.hid (below_step HB1.out hb2); clear hb2))
    go_ret3
    refine ⟨.slice none 0 0, ?_, by rw [HBB.out, if_neg (by rw [HE.out]; exact hz)]; exact Ob.nil _ _ _, HB2.out⟩
    rw [HSS.out, if_neg (by rw [HE.out]; exact hz), HE.out]
    rfl
end Go.Proofs.Ytjdigncieoaglaa

namespace Go.Proofs.Ytjdigncieoaglaa
set_option linter.unusedVariables false
open Go.RowKit Go.Lib

theorem batN_bound {l : List Rc} (h : (framesN l 0).length ≤ 2097216) (s : Int) : (batN l s).length ≤ 2162773 := by
  have h1 := makeN_length (commitN_ok (0 + l.length) l.length (framesN l 0).length)
  rw [batN_length l s 0]
  unfold batN
  rw [List.length_append]
  omega
theorem bdGo_cons {l : List Rc} {ls : List (List Rc)} {s : Int} {b : List Int} {m : Nat} : bdGo (l :: ls) s b m = if bmE l s ≠ 0 then ⟨bmE l s, [], 0, 0⟩ else bdGo ls (s + l.length + 1) (b ++ batN l s) (m + l.length) := rfl
theorem drop_cons {α : Type} {l : List α} {k : Nat} {x : α} (h : l[k]? = some x) : l.drop k = x :: l.drop (k + 1) := by
  have hk := (List.getElem?_eq_some_iff.1 h).1
  rw [List.drop_eq_getElem_cons hk]
  congr 1
  exact (List.getElem?_eq_some_iff.1 h).2

set_option maxRecDepth 100000 in
set_option maxHeartbeats 8000000 in
theorem rbuild_any (n s : Int) (p : Option Addr) (m c : Nat) (LL : List Rr) (sl : Bool) (w : World) (h : Gs encRr w p m LL) (hf : ∀ x ∈ LL, x.Fit w) (hm : m ≤ 1048576) (hn : -9223372036854775808 ≤ n ∧ n ≤ 9223372036854775807) (hs : 0 ≤ s ∧ s < 18446744073709551616) :
    Calls Try.prog 15 #[.int .i64 n, .int .u64 s, .slice p m c, .bool sl] w fun e w' => ∃ v, e = .returned (.tuple #[v, .int .i64 (buE n s (rcLL LL) sl)]) ∧ Ob w' w.heap.size 5 v (buB n s (rcLL LL) sl) ∧ Below w.heap.size w w' := by
  have H := Lib.hid h
  have HF := Lib.hid hf
  have HLS : Hid ((rcLL LL).length = m) := Lib.hid (by rw [rcLL_length, h.len])
  have HMK := Lib.hid (rmake14_any (hdQ n s) w (hdQ_fit hn hs w))
  rw [hdQ_rc] at HMK
  have HHL : Hid ((makeN (headN n s)).length ≤ 65557) := Lib.hid (makeN_length (headN_ok n s))
  have HE : Hid (buE n s (rcLL LL) sl = if rightN (headN n s) ≠ 0 then rightN (headN n s) else if (bdGo (rcLL LL) (nxtU s) (makeN (headN n s)) 0).err ≠ 0 then (bdGo (rcLL LL) (nxtU s) (makeN (headN n s)) 0).err else if sl = true then rightN (footN (bdGo (rcLL LL) (nxtU s) (makeN (headN n s)) 0).s (bdGo (rcLL LL) (nxtU s) (makeN (headN n s)) 0).m (bdGo (rcLL LL) (nxtU s) (makeN (headN n s)) 0).b.length) else 0) := Lib.hid rfl
  have HB : Hid (buB n s (rcLL LL) sl = if buE n s (rcLL LL) sl = 0 then (if sl = true then (bdGo (rcLL LL) (nxtU s) (makeN (headN n s)) 0).b ++ makeN (footN (bdGo (rcLL LL) (nxtU s) (makeN (headN n s)) 0).s (bdGo (rcLL LL) (nxtU s) (makeN (headN n s)) 0).m (bdGo (rcLL LL) (nxtU s) (makeN (headN n s)) 0).b.length) else (bdGo (rcLL LL) (nxtU s) (makeN (headN n s)) 0).b) else []) := Lib.hid rfl
  have HNU : Hid (IntKind.u64.wrap (s + 1) = nxtU s ∧ 0 ≤ nxtU s ∧ nxtU s ≤ 18446744073709551615) := Lib.hid (by
    unfold nxtU
    by_cases h1 : s = 18446744073709551615
    · subst h1
      rw [if_pos rfl]
      decide
    · rw [if_neg h1]
      exact ⟨wrap_u64_in (by omega) (by omega), by omega, by omega⟩)
  generalize buE n s (rcLL LL) sl = E at *
  generalize buB n s (rcLL LL) sl = FB at *
  obtain ⟨hnu, hn0, hn1⟩ := HNU.out
  obtain ⟨N0, hN0⟩ : ∃ x, nxtU s = x := ⟨_, rfl⟩
  rw [hN0] at HE HB hnu hn0 hn1
  obtain ⟨RH, hRH⟩ : ∃ x, rightN (headN n s) = x := ⟨_, rfl⟩
  rw [hRH] at HE HMK
  obtain ⟨HD, hHD⟩ : ∃ x, makeN (headN n s) = x := ⟨_, rfl⟩
  rw [hHD] at HE HB HMK HHL
  obtain ⟨LS, hLS⟩ : ∃ x, rcLL LL = x := ⟨_, rfl⟩
  rw [hLS] at HE HB HLS
  have HLSE := Lib.hid hLS
  obtain ⟨G, hG⟩ : ∃ x, bdGo LS N0 HD 0 = x := ⟨_, rfl⟩
  rw [hG] at HE HB
  have HG := Lib.hid hG
  unfold Rq.v at HMK
  clear h hf hRH hHD hN0 hLS hG HNU
  by_cases hz : RH = 0
  · subst hz
    rw [if_neg (by simp)] at HE
    go_enter Try.func15, Try.ntmps15
    go_wp2_with (first
      | (refine wpList_build_is rfl 29 _ rfl (mixC (hdQ n s).a (hdQ n s).dg (hdQ n s).z) ?_ ?_; focus kernel_rfl)
      | (go_at_call 7; refine HMK.out.mono ?_; rintro e w1 ⟨v1, rfl, ho1, hb1⟩; have HO1 := Lib.hid ho1; have HB1 := Lib.hid hb1; clear ho1 hb1))
    clear hnu
    go_loopw [10, 12, 13, 14] (fun bv nv mv iv wr => ∃ (k : Nat) (nx : Int) (B : List Int) (mn : Nat), k ≤ m ∧ iv = .int .i64 (k : Int) ∧ nv = .int .u64 nx ∧ mv = .int .i64 (mn : Int) ∧ Hid (Ob wr w.heap.size 5 bv B) ∧ Hid (G = bdGo (LS.drop k) nx B mn) ∧ Hid (0 ≤ nx ∧ nx ≤ 18446744073709551615) ∧ Hid (B.length ≤ 65557 + 2162773 * k ∧ mn ≤ 1048576 * k) ∧ Hid (Below w.heap.size w wr)) (fun _ _ _ iv _ => m - (intOf iv).toNat)
    case atStart => exact ⟨0, N0, HD, 0, by omega, rfl, rfl, rfl, HO1, Lib.hid (by rw [List.drop_zero]; exact HG.out.symm), Lib.hid ⟨hn0, hn1⟩, Lib.hid (by have := HHL.out; omega), HB1⟩
    case round =>
      obtain ⟨k, nx, B, mn, hk, rfl, rfl, rfl, HO, HGk, HX, HL, HBr⟩ := hrel
      by_cases hlt : k < m
      · obtain ⟨b, off, x, hp, hLk, hRk, hxm, hcell⟩ := (H.out.later HBr.out).rr k hlt
        subst hp
        rw [HLSE.out] at hRk
        rw [drop_cons hRk, bdGo_cons] at HGk
        have hki : (k : Int) < (m : Int) := by omega
        have HXF := Lib.hid ((HF.out x hxm).later HBr.out)
        have HXL : Hid ((rcL x.L).length = x.n) := Lib.hid (by rw [rcL_length]; exact HXF.out.gs.len)
        have HM15 := Lib.hid (rmake15_any x.p x.n x.c x.L nx wr HXF.out.gs (fun y hy => (HXF.out.rcs y hy).1) HXF.out.len ⟨HX.out.1, by have := HX.out.2; omega⟩)
        have HMB : Hid (bmB (rcL x.L) nx = if bmE (rcL x.L) nx = 0 then batN (rcL x.L) nx else []) := Lib.hid rfl
        have HMS : Hid (bmS (rcL x.L) nx = if bmE (rcL x.L) nx = 0 then nx + x.n + 1 else nx) := Lib.hid (by unfold bmS; rw [HXL.out])
        have HBL := Lib.hid (batN_bound HXF.out.fr nx)
        have HME := Lib.hid fun h0 => (bmE_zero (l := rcL x.L) (s := nx) h0).2
        rw [HXL.out] at HGk HME
        have hxn := HXF.out.len
        obtain ⟨ME, hME⟩ : ∃ e, bmE (rcL x.L) nx = e := ⟨_, rfl⟩
        rw [hME] at HGk HM15 HMB HMS HME
        generalize bmS (rcL x.L) nx = MS at *
        generalize bmB (rcL x.L) nx = MB at *
        obtain ⟨BT, hBT⟩ : ∃ t, batN (rcL x.L) nx = t := ⟨_, rfl⟩
        rw [hBT] at HGk HMB HBL
        obtain ⟨xp, xn, xc, XL⟩ := x
        dsimp only at *
        obtain ⟨FN, hFN⟩ : ∃ q, MB.length = q := ⟨_, rfl⟩
        have HFN := Lib.hid hFN
        clear hLk hRk hxm hME hBT hFN
        by_cases hm0 : ME = 0
        · as_aux_lemma =>
          subst hm0
          rw [if_pos rfl] at HMB HMS
          rw [if_neg (by simp)] at HGk
          have hme := HME.out (by first | rfl | trivial)
          have hw64 : IntKind.i64.wrap ((mn : Int) + (xn : Int)) = ((mn + xn : Nat) : Int) := by
            have := HL.out.2
            simp [IntKind.wrap, IntKind.bits, IntKind.signed]
            omega
          obtain ⟨mn2, hmn2⟩ : ∃ q, mn + xn = q := ⟨_, rfl⟩
          rw [hmn2] at hw64 HGk
          have hw64b : wrap64 ((mn : Int) + (xn : Int)) = (mn2 : Int) := by
            have := HL.out.2
            unfold wrap64
            omega
          have HMN := Lib.hid hmn2
          have HKN := Lib.hid hlt
          clear hmn2 HME
          go_wp2_with (first
            | (go_at_call 27; refine HM15.out.mono ?_; rintro e w4 ⟨v4, rfl, ho4, hb4⟩; have HB4 := Lib.hid (below_step HBr.out hb4); have HO4 := Lib.hid (HO.out.later hb4); have k4 : w4.cell? ⟨b, off + k, none⟩ = some (.slice xp xn xc) := (by rw [hb4.cell (World.block_lt_of_cell? wr _ hcell)]; exact hcell); obtain ⟨p4, c4, hv4, hlc4, hcm4, hbs4, hpc4⟩ := ho4.open; rw [HFN.out] at hv4 hlc4 hbs4; subst hv4; have HD4 := Lib.hid hbs4; have HP4 := Lib.hid hpc4; have HLB := Lib.hid (World.block_lt_of_cell? w4 _ k4); clear ho4 hb4 hbs4 hpc4 hlc4 hcm4)
            | (refine wpList_append_bytes rfl _ _ 23 5 rfl Try.underlying23 info8 w.heap.size _ B rfl HO4.out p4 FN c4 MB rfl HD4.out HP4.out (by have h1 := HL.out.1; have h2 := HBL.out; have h3 := HFN.out; have h4 := HMB.out; rw [h4] at h3; omega) HB4.out.size ?_; intro v5 w5 ho5 hg5; have HB5 := Lib.hid (below_new HB4.out HO4.out hg5 HB4.out.size); have k5 : w5.cell? ⟨b, off + k, none⟩ = some (.slice xp xn xc) := (by have h9 := (H.out.later HB5.out).rrAt k HKN.out; obtain ⟨x9, h91, _, _, h94⟩ := h9; have h95 := (H.out.later HB4.out).rrAt k HKN.out; obtain ⟨x8, h81, _, _, h84⟩ := h95; rw [h91] at h81; simp only [Option.some.injEq] at h81; subst h81; rw [k4] at h84; rw [h94, ← h84]); have HO5 := Lib.hid ho5; clear ho5 hg5))
          have hkn := HKN.out
          refine ⟨⟨k + 1, MS, B ++ MB, mn2, by omega, by go_num, (by first | rfl | trivial), (by first | rfl | trivial), HO5, Lib.hid (by rw [HGk.out, HMB.out, HMS.out]), Lib.hid ?_, Lib.hid ?_, HB5⟩, by simp [intOf] <;> omega⟩
          · rw [HMS.out]
            have := HX.out.1
            omega
          · have h1 := HL.out
            have h2 := HBL.out
            have h3 := HMN.out
            rw [List.length_append, HMB.out]
            omega
        · as_aux_lemma =>
          rw [if_neg hm0] at HMB HMS
          rw [if_pos hm0] at HGk
          have hne : (ME != 0) = true := by simpa using hm0
          have HGE : Hid (G.err = ME) := Lib.hid (by rw [HGk.out])
          rw [HGE.out, if_pos hm0] at HE
          go_wp2_with (first
            | (go_at_call 27; refine HM15.out.mono ?_; rintro e w4 ⟨v4, rfl, ho4, hb4⟩; have HB4 := Lib.hid (below_step HBr.out hb4); clear ho4 hb4))
          go_ret2
          exact ⟨.slice none 0 0, by rw [HE.out]; rfl, by rw [HB.out, if_neg (by rw [HE.out]; exact hm0)]; exact Ob.nil _ _ _, HB4.out⟩
      · as_aux_lemma =>
        obtain rfl : k = m := by omega
        rw [show LS.drop k = [] from List.drop_eq_nil_of_le (by rw [HLS.out]; exact Nat.le_refl _)] at HGk
        replace HGk : Hid (G = ⟨0, B, nx, mn⟩) := HGk
        rw [HGk.out] at HE HB
        dsimp only at HE HB
        rw [if_neg (by simp)] at HE
        cases sl
        · rw [if_neg (by simp)] at HE
          go_wp2
          go_ret2
          exact ⟨_, by rw [HE.out]; rfl, by rw [HB.out, if_pos HE.out]; (try simp only [if_false, Bool.false_eq_true]); exact HO.out, HBr.out⟩
        · rw [if_pos rfl] at HE
          obtain ⟨p1, c1, hv1, hlc1, hcm1, hbs1, hpc1⟩ := HO.out.open
          obtain ⟨BN, hBN⟩ : ∃ q, B.length = q := ⟨_, rfl⟩
          have HBN := Lib.hid hBN
          rw [hBN] at hv1 hlc1 hbs1 HE HB
          subst hv1
          have hb1 := HL.out
          rw [hBN] at hb1
          have hx1 := HX.out
          have HFT := Lib.hid fun W => ftQ_fit (s := nx) (m := (mn : Int)) (z := (BN : Int)) ⟨hx1.1, by omega⟩ (by omega) (by omega) W
          have HMK2 := Lib.hid (rmake14_any (ftQ nx mn BN) wr (HFT.out wr))
          rw [ftQ_rc] at HMK2
          have HML : Hid ((makeN (footN nx mn BN)).length ≤ 65557) := Lib.hid (makeN_length (footN_ok nx mn BN))
          obtain ⟨RF, hRF⟩ : ∃ x, rightN (footN nx mn BN) = x := ⟨_, rfl⟩
          rw [hRF] at HE HMK2
          obtain ⟨F, hF⟩ : ∃ F, makeN (footN nx mn BN) = F := ⟨_, rfl⟩
          rw [hF] at HMK2 HML HB
          unfold Rq.v at HMK2
          obtain ⟨FN, hFN⟩ : ∃ q, F.length = q := ⟨_, rfl⟩
          have HFN := Lib.hid hFN
          rw [hFN] at HML
          have hml := HML.out
          clear hRF hF hFN hBN hlc1 hcm1 hbs1 hpc1
          by_cases hr : RF = 0
          · as_aux_lemma =>
            subst hr
            go_wp2_with (first
              | (refine wpList_build_is rfl 29 _ rfl (mixC (ftQ nx mn BN).a (ftQ nx mn BN).dg (ftQ nx mn BN).z) ?_ ?_; focus kernel_rfl)
              | (go_at_call 7; refine HMK2.out.mono ?_; rintro e w4 ⟨v4, rfl, ho4, hb4⟩; have HB4 := Lib.hid (below_step HBr.out hb4); have HO4 := Lib.hid (HO.out.later hb4); obtain ⟨p4, c4, hv4, hlc4, hcm4, hbs4, hpc4⟩ := ho4.open; rw [HFN.out] at hv4 hlc4 hbs4; subst hv4; have HD4 := Lib.hid hbs4; have HP4 := Lib.hid hpc4; clear ho4 hb4 hbs4 hpc4 hlc4 hcm4)
              | (refine wpList_append_bytes rfl _ _ 23 5 rfl Try.underlying23 info8 w.heap.size _ B rfl HO4.out p4 FN c4 F rfl HD4.out HP4.out (by have := HBN.out; omega) HB4.out.size ?_; intro v5 w5 ho5 hg5; have HB5 := Lib.hid (below_new HB4.out HO4.out hg5 HB4.out.size); have HO5 := Lib.hid ho5; clear ho5 hg5))
            go_ret2
            exact ⟨_, by rw [HE.out]; rfl, by rw [HB.out, if_pos HE.out]; (try simp only [if_true]); exact HO5.out, HB5.out⟩
          · as_aux_lemma =>
            have hne : (RF != 0) = true := by simpa using hr
            go_wp2_with (first
              | (refine wpList_build_is rfl 29 _ rfl (mixC (ftQ nx mn BN).a (ftQ nx mn BN).dg (ftQ nx mn BN).z) ?_ ?_; focus kernel_rfl)
              | (go_at_call 7; refine HMK2.out.mono ?_; rintro e w4 ⟨v4, rfl, ho4, hb4⟩; have HB4 := Lib.hid (below_step HBr.out hb4); clear ho4 hb4))
            go_ret2
            exact ⟨.slice none 0 0, by rw [HE.out]; rfl, by rw [HB.out, if_neg (by rw [HE.out]; exact hr)]; exact Ob.nil _ _ _, HB4.out⟩
  · rw [if_pos hz] at HE
    have hne : (RH != 0) = true := by simpa using hz
    go_enter Try.func15, Try.ntmps15
    go_wp2_with (first
      | (refine wpList_build_is rfl 29 _ rfl (mixC (hdQ n s).a (hdQ n s).dg (hdQ n s).z) ?_ ?_; focus kernel_rfl)
      | (go_at_call 7; refine HMK.out.mono ?_; rintro e w1 ⟨v1, rfl, ho1, hb1⟩; have HB1 := Lib.hid hb1; clear ho1 hb1))
    go_ret2
    exact ⟨.slice none 0 0, by rw [HE.out]; rfl, by rw [HB.out, if_neg (by rw [HE.out]; exact hz)]; exact Ob.nil _ _ _, HB1.out⟩
end Go.Proofs.Ytjdigncieoaglaa
