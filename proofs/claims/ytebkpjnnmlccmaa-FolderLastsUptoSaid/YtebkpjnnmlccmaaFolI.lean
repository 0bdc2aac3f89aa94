/- Layer 11, the program: slices.Clone, Find, fault. -/
import Derived.Test.YtebkpjnnmlccmaaFolF
import Derived.Test.YtebkpjnnmlccmaaDsk
import Derived.Test.YtebkpjnnmlccmaaFolJ
import Derived.Lib.SliceRun
import Derived.Laws.ResultCell
namespace Go.Proofs.Ytebkpjnnmlccmaa
set_option linter.unusedVariables false
open Go.RowKit Go.Lib Go.Maps

set_option maxRecDepth 100000 in
theorem cloneN_any (p : Option Addr) (n c : Nat) (L : List Nd) (w : World) (h : Gs encN w p n L) (hpc : p = none → c = 0) (hnc : n ≤ c) (hn : n ≤ 1048576) :
    Calls Try.prog 21 #[.slice p n c] w fun e w' => ∃ p' c', e = .returned (.slice p' n c') ∧ Gw encN w' w.heap.size (.slice p' n c') L ∧ (p' = none → c' = 0) ∧ n ≤ c' ∧ Below w.heap.size w w' := by
  have H := Lib.hid h
  have HB0 : Hid (Below w.heap.size w (w.alloc (.cells #[] 48))) := Lib.hid ((Below.refl _ _).alloc (Nat.le_refl _) _)
  have HO0 := Lib.hid (Gw.empty encN w w.heap.size (Nat.le_refl _))
  have hq : ∀ (w : World) (a : Option Addr) (n c n' c' : Nat), (binOp .eql 22 (.slice a n c) (.slice none n' c')).run Try.prog w = .ok (.bool a.isNone) w := fun w a n c n' c' => Lib.run_eql_slice_nil w _ _ a n c n' c' Try.underlying22
  cases p with
  | none =>
    obtain rfl := hpc rfl
    obtain rfl : n = 0 := by omega
    obtain rfl : L = [] := List.length_eq_zero_iff.1 h.1
    clear h hpc
    go_enter Try.func21, Try.ntmps21
    go_wp2
    go_ret
    exact ⟨none, 0, rfl, Gw.nil _ _ _, fun _ => rfl, Nat.le_refl _, Below.refl _ _⟩
  | some ad =>
    have HD := Lib.hid (h.later HB0.out)
    have HZ : Hid (([] : List Nd).length + n ≤ 2097152) := Lib.hid (by simp; omega)
    clear h hpc hnc hn
    go_enter Try.func21, Try.ntmps21
    go_wp2_with (refine wpList_append_gen encN rfl (.tmp 5) (.tmp 6) 22 rfl Try.underlying22 nzero 24 infoN rfl (by decide) w.heap.size _ [] rfl HO0.out _ n c L rfl HD.out (fun h => by cases h) HZ.out HB0.out.size ?_; intro v5 w5 ho5 hg5; have HO5 := Lib.hid ho5; have HB5 : Hid (Below w.heap.size w w5) := Lib.hid (below_new_gw HB0.out HO0.out hg5 HB0.out.size); clear ho5 hg5)
    go_ret
    have ho := HO5.out
    rw [List.nil_append] at ho
    obtain ⟨p', c', hv, hlc, _, _, hpn⟩ := ho.open
    have hl := H.out.1
    rw [hl] at hv hlc
    subst hv
    exact ⟨p', c', rfl, ho, hpn, hlc, HB5.out⟩

set_option maxRecDepth 100000 in
theorem cloneC_any (p : Option Addr) (n c : Nat) (L : List Cg) (w : World) (h : Gs encC w p n L) (hpc : p = none → c = 0) (hnc : n ≤ c) (hn : n ≤ 1048576) :
    Calls Try.prog 22 #[.slice p n c] w fun e w' => ∃ p' c', e = .returned (.slice p' n c') ∧ Gw encC w' w.heap.size (.slice p' n c') L ∧ (p' = none → c' = 0) ∧ n ≤ c' ∧ Below w.heap.size w w' := by
  have H := Lib.hid h
  have HB0 : Hid (Below w.heap.size w (w.alloc (.cells #[] 27))) := Lib.hid ((Below.refl _ _).alloc (Nat.le_refl _) _)
  have HO0 := Lib.hid (Gw.empty encC w w.heap.size (Nat.le_refl _))
  have hq : ∀ (w : World) (a : Option Addr) (n c n' c' : Nat), (binOp .eql 23 (.slice a n c) (.slice none n' c')).run Try.prog w = .ok (.bool a.isNone) w := fun w a n c n' c' => Lib.run_eql_slice_nil w _ _ a n c n' c' Try.underlying23
  cases p with
  | none =>
    obtain rfl := hpc rfl
    obtain rfl : n = 0 := by omega
    obtain rfl : L = [] := List.length_eq_zero_iff.1 h.1
    clear h hpc
    go_enter Try.func22, Try.ntmps22
    go_wp2
    go_ret
    exact ⟨none, 0, rfl, Gw.nil _ _ _, fun _ => rfl, Nat.le_refl _, Below.refl _ _⟩
  | some ad =>
    have HD := Lib.hid (h.later HB0.out)
    have HZ : Hid (([] : List Cg).length + n ≤ 2097152) := Lib.hid (by simp; omega)
    clear h hpc hnc hn
    go_enter Try.func22, Try.ntmps22
    go_wp2_with (refine wpList_append_gen encC rfl (.tmp 5) (.tmp 6) 23 rfl Try.underlying23 czero 48 infoC rfl (by decide) w.heap.size _ [] rfl HO0.out _ n c L rfl HD.out (fun h => by cases h) HZ.out HB0.out.size ?_; intro v5 w5 ho5 hg5; have HO5 := Lib.hid ho5; have HB5 : Hid (Below w.heap.size w w5) := Lib.hid (below_new_gw HB0.out HO0.out hg5 HB0.out.size); clear ho5 hg5)
    go_ret
    have ho := HO5.out
    rw [List.nil_append] at ho
    obtain ⟨p', c', hv, hlc, _, _, hpn⟩ := ho.open
    have hl := H.out.1
    rw [hl] at hv hlc
    subst hv
    exact ⟨p', c', rfl, ho, hpn, hlc, HB5.out⟩

/-- what the map behind all changes says is what the row behind them says -/
theorem aft_now {F : Fd} {n : Nat} (h : F.p.length ≤ n) : aftF F n = findP (nowP F) := by rw [← (beh_both F n).2, behP_all h]

set_option maxRecDepth 100000 in
set_option maxHeartbeats 2000000 in
theorem ffind_any (x : Fo) (s : ByteArray) (w : World) (h : Fo.fit w x) (ho : x.fd.ok) (hs : s.size ≤ 1048576) :
    Calls Try.prog 8 #[x.v, .string s] w fun e w' => e = .returned (fndV (findP (nowP x.fd) s)) ∧ Below w.heap.size w w' := by
  obtain ⟨hnm, hll, hml⟩ := Fo.len h ho
  have HAFT := Lib.hid fun W hW => after_any x (x.m : Int) W hW ho (by unfold InI; omega)
  have HNOW : Hid (aftF x.fd ((x.m : Int)).toNat = findP (nowP x.fd)) := Lib.hid (aft_now (by show x.M.length ≤ _; rw [hml, Int.toNat_natCast]; exact Nat.le_refl _))
  obtain ⟨p, l, c, q, m, d, L, M⟩ := x
  dsimp only at hnm hll hml
  generalize Fo.fd ⟨p, l, c, q, m, d, L, M⟩ = F at *
  have HF := Lib.hid h
  unfold Fo.v at HAFT ⊢
  dsimp only at HAFT HNOW ⊢
  have HB0 : Hid (Below w.heap.size w (w.alloc (.cells #[.slice p l c, .slice q m d] 25))) := Lib.hid (below_alloc' (Below.refl _ _) _)
  clear h ho hll hml hnm
  go_enter Try.func8, Try.ntmps8
  go_wp2_with (first
    | (go_at_call 25; refine (HAFT.out _ (HF.out.later HB0.out)).mono ?_; rintro e w2 ⟨b, rfl, hb, hm2, hb2⟩; have HM2 := Lib.hid hm2; have HB2 := Lib.hid (below_step HB0.out hb2); clear hb hm2 hb2)
    | (at_lookup; refine wpList_look rfl _ _ rfl b 1048576 _ s rfl HM2.out rfl hs ?_; rw [HNOW.out]))
  go_ret2
  exact ⟨rfl, HB2.out⟩
end Go.Proofs.Ytebkpjnnmlccmaa
