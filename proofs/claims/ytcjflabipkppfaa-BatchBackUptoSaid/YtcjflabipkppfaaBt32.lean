/- Layer 15, the program: wrong -/
import Derived.Test.YtcjflabipkppfaaBt16
import Derived.Test.YtcjflabipkppfaaBt17
import Derived.Test.YtcjflabipkppfaaBt26
set_option linter.unusedSimpArgs false
set_option linter.unusedVariables false
namespace Go.Proofs.Ytcjflabipkppfaa
set_option linter.unusedVariables false
open Go.RowKit Go.Lib

theorem memB_true {k : Int} (h : memB k = true) : 1 ≤ k ∧ k ≤ 5 := of_decide_eq_true h
theorem memB_false {k : Int} (h : memB k = false) : k < 1 ∨ k > 5 := by have := of_decide_eq_false h; omega
set_option maxRecDepth 100000 in
set_option maxHeartbeats 4000000 in
theorem cwrong_any (p : Option Addr) (n c : Nat) (L : List Rx) (w : World) (h : Gs encRc w p n L) (hf : ∀ x ∈ L, x.1.Fit w ∧ x.1.n ≤ 1048576) (hn : n ≤ 1048576) :
    Calls Try.prog 27 #[.slice p n c] w fun e w' => e = .returned (.int .i64 (wrongN (rcL L))) ∧ Below w.heap.size w w' := by
  have H := Lib.hid h
  have HF := Lib.hid hf
  have HLL := Lib.hid h.len
  have HLR : Hid ((rcL L).length = n) := Lib.hid (by rw [rcL_length, h.len])
  have HRI := Lib.hid fun (x : Rx) W (hW : x.1.Fit W) (h2 : x.1.n ≤ 2097152) => cright_ok x.1 W hW h2
  unfold Rq.v at HRI
  obtain ⟨R, hR⟩ : ∃ R, wrongN (rcL L) = R := ⟨_, rfl⟩
  rw [hR]
  have HR := Lib.hid hR
  clear h hf hR
  by_cases h0 : n = 0
  · subst h0
    have hl : L = [] := List.length_eq_zero_iff.1 HLL.out
    replace HR : Hid (R = 2) := Lib.hid (by rw [← HR.out, hl]; rfl)
    clear hl
    go_enter Try.func27, Try.ntmps27
    go_wp2
    go_ret
    exact ⟨by rw [HR.out]; rfl, Below.refl _ _⟩
  have hne : ((n : Int) == 0) = false := by simpa using h0
  have HNE : Hid (rcL L ≠ []) := Lib.hid fun hh => h0 (by rw [← HLR.out, hh]; rfl)
  obtain ⟨b, off, rfl, _⟩ := H.out.ptr 0 (by omega)
  clear h0
  go_enter Try.func27, Try.ntmps27
  go_wp2
  go_loopw [13] (fun i wr => ∃ k : Nat, k ≤ n ∧ i = .int .i64 (k : Int) ∧ Hid (∀ (j : Nat) (r : Rc), j < k → (rcL L)[j]? = some r → 1 ≤ r.k ∧ r.k ≤ 5) ∧ Hid (Below w.heap.size w wr)) (fun i _ => n - (intOf i).toNat)
  case atStart => exact ⟨0, by omega, rfl, Lib.hid (fun j r hj => by omega), Lib.hid (Below.refl _ _)⟩
  case round =>
    obtain ⟨k, hk, rfl, HQ, HB⟩ := hrel
    by_cases hlt : k < n
    · obtain ⟨x, hLk, hRk, hxm, hcell, hrng⟩ := (H.out.later HB.out).recAt k hlt
      have HRK := Lib.hid hRk
      have hki : (k : Int) < (n : Int) := by omega
      have HRG := Lib.hid (rec_load hrng)
      have HXD := Lib.hid x.2
      obtain ⟨g, hg⟩ : ∃ g, wr.heap.size = g := ⟨_, rfl⟩
      have HGW : Hid (w.heap.size ≤ g) := Lib.hid (by rw [← hg]; exact HB.out.size)
      have HNW : Hid (∀ Z : Obj, (wr.alloc Z).heap[g]? = some Z) := Lib.hid fun Z => by rw [← hg]; exact heap_alloc_new _ _
      have HMB := Lib.hid fun W => isMember_any x.1 W x.2
      obtain ⟨mb, hmb⟩ : ∃ b, memB x.1.k = b := ⟨_, rfl⟩
      rw [hmb] at HMB
      have HMV := Lib.hid hmb
      clear hrng hLk hRk hcell hmb hxm
      go_upto_region 6 with (first
        | (refine wpList_ld rfl _ _ rfl _ rfl _ HRG.out ?_)
        | (refine wpList_store_row rfl 42 _ _ rfl g _ rfl rfl 42 _ (HNW.out _) (Rq.sizeOf x.1 HXD.out) (Rq.sizes rq0 x.1 rfl HXD.out) x.1.one ?_; generalize hw2 : World.setRow _ _ _ = w2))
      have HR2 : Hid (Rm w2 g x.1) := Lib.hid (by rw [← hw2]; exact Mx.row (show Rm (wr.alloc (.cells (mixC rq0.a rq0.dg rq0.z) 42)) g rq0 from HNW.out _))
      have HB2 : Hid (Below w.heap.size w w2) := Lib.hid (by rw [← hw2]; exact below_setRow8 (HB.out.alloc HB.out.size _) _ _ HGW.out)
      clear hw2 hg
      cases mb
      · have HRR : Hid (R = 2) := Lib.hid (by rw [← HR.out]; exact wrongN_kind HRK.out (memB_false HMV.out))
        go_wp2_with (first
          | (refine wpList_ld rfl _ _ rfl _ rfl _ (HR2.out.load HXD.out) ?_)
          | (go_at_call 24; refine (HMB.out _).mono ?_; rintro e w3 ⟨rfl, hb3⟩; have HB3 := Lib.hid (below_step HB2.out hb3); clear hb3))
        go_ret
        exact ⟨by rw [HRR.out]; rfl, HB3.out⟩
      · have HQ' : Hid (∀ (j : Nat) (r : Rc), j < k + 1 → (rcL L)[j]? = some r → 1 ≤ r.k ∧ r.k ≤ 5) := Lib.hid fun j r hj hr => by
          by_cases e : j = k
          · subst e
            rw [HRK.out] at hr
            simp only [Option.some.injEq] at hr
            subst hr
            exact memB_true HMV.out
          · exact HQ.out j r (by omega) hr
        go_wp2_with (first
          | (refine wpList_ld rfl _ _ rfl _ rfl _ (HR2.out.load HXD.out) ?_)
          | (go_at_call 24; refine (HMB.out _).mono ?_; rintro e w3 ⟨rfl, hb3⟩; have HB3 := Lib.hid (below_step HB2.out hb3); clear hb3))
        exact ⟨⟨k + 1, by omega, by go_num, HQ', HB3⟩, by simp [intOf] <;> omega⟩
    · obtain rfl : k = n := by omega
      have HWF : Hid (R = firstN (rcL L)) := Lib.hid (by
        rw [← HR.out]
        refine wrongN_first HNE.out fun i r hr => HQ.out i r ?_ hr
        rw [← HLR.out]
        exact (List.getElem?_eq_some_iff.1 hr).1)
      clear HQ hlt
      go_wp2
      go_loopw [23] (fun i wq => ∃ m : Nat, m ≤ k ∧ i = .int .i64 (m : Int) ∧ Hid (∀ (j : Nat) (r : Rc), j < m → (rcL L)[j]? = some r → rightN r = 0) ∧ Hid (Below w.heap.size w wq)) (fun i _ => k - (intOf i).toNat)
      case atStart => exact ⟨0, by omega, rfl, Lib.hid (fun j r hj => by omega), HB⟩
      case round =>
        obtain ⟨m, hm, rfl, HZ, HBQ⟩ := hrel
        by_cases hlt : m < k
        · obtain ⟨x, hLk, hRk, hxm, _, hrng⟩ := (H.out.later HBQ.out).recAt m hlt
          have HRK := Lib.hid hRk
          have hmi : (m : Int) < (k : Int) := by omega
          have HRG := Lib.hid (rec_load hrng)
          have HXD := Lib.hid x.2
          have HFX := Lib.hid fun V (hV : Below w.heap.size w V) => (HF.out x hxm).1.later hV
          have HFN := Lib.hid (HF.out x hxm).2
          obtain ⟨g, hg⟩ : ∃ g, wr.heap.size = g := ⟨_, rfl⟩
          have HGW : Hid (w.heap.size ≤ g) := Lib.hid (by rw [← hg]; exact HBQ.out.size)
          have HNW : Hid (∀ Z : Obj, (wr.alloc Z).heap[g]? = some Z) := Lib.hid fun Z => by rw [← hg]; exact heap_alloc_new _ _
          obtain ⟨r, hr⟩ : ∃ r, rightN x.1.rc = r := ⟨_, rfl⟩
          have HRX := Lib.hid fun W hW => HRI.out x W hW (by have := HFN.out; omega)
          rw [hr] at HRX
          have HRV := Lib.hid hr
          clear hrng hLk hRk hr hxm
          go_upto_region 12 with (first
            | (refine wpList_ld rfl _ _ rfl _ rfl _ HRG.out ?_)
            | (refine wpList_store_row rfl 42 _ _ rfl g _ rfl rfl 42 _ (HNW.out _) (Rq.sizeOf x.1 HXD.out) (Rq.sizes rq0 x.1 rfl HXD.out) x.1.one ?_; generalize hw2 : World.setRow _ _ _ = w2))
          have HR2 : Hid (Rm w2 g x.1) := Lib.hid (by rw [← hw2]; exact Mx.row (show Rm (wr.alloc (.cells (mixC rq0.a rq0.dg rq0.z) 42)) g rq0 from HNW.out _))
          have HB2 : Hid (Below w.heap.size w w2) := Lib.hid (by rw [← hw2]; exact below_setRow8 (HBQ.out.alloc HBQ.out.size _) _ _ HGW.out)
          clear hw2 hg
          by_cases hz : r = 0
          · subst hz
            have HZ' : Hid (∀ (j : Nat) (r : Rc), j < m + 1 → (rcL L)[j]? = some r → rightN r = 0) := Lib.hid fun j r' hj hr' => by
              by_cases e : j = m
              · subst e
                rw [HRK.out] at hr'
                simp only [Option.some.injEq] at hr'
                subst hr'
                exact HRV.out
              · exact HZ.out j r' (by omega) hr'
            go_wp2_with (first
              | (refine wpList_ld rfl _ _ rfl _ rfl _ (HR2.out.load HXD.out) ?_)
              | (go_at_call 29; refine (HRX.out _ (HFX.out _ HB2.out)).mono ?_; rintro e w3 ⟨rfl, hb3⟩; have HB3 := Lib.hid (below_step HB2.out hb3); clear hb3))
            exact ⟨⟨m + 1, by omega, by go_num, HZ', HB3⟩, by simp [intOf] <;> omega⟩
          · have HRR : Hid (R = r) := Lib.hid (by rw [HWF.out, ← HRV.out]; exact firstN_at HRK.out (fun i r' hi hri => HZ.out i r' hi hri) (by rw [HRV.out]; exact hz))
            have hne2 : (r != 0) = true := by simpa using hz
            clear hz
            go_wp2_with (first
              | (refine wpList_ld rfl _ _ rfl _ rfl _ (HR2.out.load HXD.out) ?_)
              | (go_at_call 29; refine (HRX.out _ (HFX.out _ HB2.out)).mono ?_; rintro e w3 ⟨rfl, hb3⟩; have HB3 := Lib.hid (below_step HB2.out hb3); clear hb3))
            go_ret
            exact ⟨by rw [HRR.out]; rfl, HB3.out⟩
        · obtain rfl : m = k := by omega
          have HRR : Hid (R = 0) := Lib.hid (by
            rw [HWF.out]
            refine firstN_none fun i r hr => HZ.out i r ?_ hr
            rw [← HLR.out]
            exact (List.getElem?_eq_some_iff.1 hr).1)
          go_wp2
          go_ret
          exact ⟨by rw [HRR.out]; rfl, HBQ.out⟩
end Go.Proofs.Ytcjflabipkppfaa
