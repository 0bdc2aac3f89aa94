/- Layer 11, the program: ascending -/
import Derived.Test.YtncbgddgkpaoeaaGreatDd20
import Derived.Test.YtncbgddgkpaoeaaGreatDd21
import Derived.Sort.OwnSorted
set_option linter.unusedSimpArgs false
set_option linter.unusedVariables false
namespace Go.Proofs.YtncbgddgkpaoeaaGreat
set_option linter.unusedVariables false
open Go.RowKit Go.Lib Go.Maps

/-- what was met of a map of names: each once -/
def Coll (f : ByteArray → Option Int) (left : Lit → Bool) (o : List Nd) : Prop := (o.map Nd.s).Nodup ∧ ∀ s i, (⟨s, i⟩ : Nd) ∈ o ↔ (f s = some i ∧ left (keyL s) = false)
theorem Coll.start {D : DataW Unit} {f : ByteArray → Option Int} (hd : Df D f) (h0 : okF f) : Coll f (has D) [] := by
  refine ⟨List.nodup_nil, fun s i => ⟨fun h => (by cases h), fun ⟨h1, h2⟩ => ?_⟩⟩
  have h3 := (h0 s i h1).1
  rw [(hd s (by unfold maxLen; omega)).1, h1] at h2
  cases h2
theorem Coll.met {D : DataW Unit} {f : ByteArray → Option Int} (hd : Df D f) {s : ByteArray} {c : Int} (hs : s.size ≤ maxLen) (hat : ∀ zd, D.atKey (keyL s) zd = .lit (.int .i64 c)) : f s = some c := by
  obtain ⟨h1, h2⟩ := hd s hs
  rw [has_true_of_atKey hat] at h1
  cases hf : f s with
  | none => rw [hf] at h1; cases h1
  | some i =>
    have h3 := h2 i hf (.lit (.int .i64 0))
    rw [hat] at h3
    simp only [DataW.lit.injEq, Lit.int.injEq, true_and] at h3
    rw [h3]
theorem Coll.step {f : ByteArray → Option Int} {left : Lit → Bool} {o : List Nd} (h : Coll f left o) {s : ByteArray} {c : Int} (hf : f s = some c) (hs : s.size ≤ 1048576) (hl : left (keyL s) = true) : Coll f (fun z => left z && !z.sameKey (keyL s)) (o ++ [⟨s, c⟩]) := by
  obtain ⟨h1, h2⟩ := h
  have hself : (keyL s).sameKey (keyL s) = true := WideAt.sameKey_self (keyL_is hs)
  refine ⟨?_, fun t i => ?_⟩
  · rw [List.map_append, List.nodup_append]
    refine ⟨h1, by simp, fun a ha b hb => ?_⟩
    simp only [List.map_cons, List.map_nil, List.mem_singleton] at hb
    subst hb
    rintro rfl
    obtain ⟨x, hx, rfl⟩ := List.mem_map.1 ha
    have := ((h2 x.s x.id).1 hx).2
    rw [this] at hl; cases hl
  · rw [List.mem_append, List.mem_singleton, h2 t i]
    by_cases e : t = s
    · subst e
      simp only [hself, Bool.not_true, Bool.and_false, and_true, hl, Bool.true_eq_false, and_false, false_or, Nd.mk.injEq, true_and]
      rw [hf, Option.some.injEq, eq_comm]
    · have h3 : (keyL t).sameKey (keyL s) = false := sameKey_ne (keyL_ne e)
      simp only [h3, Bool.not_false, Bool.and_true, Nd.mk.injEq, e, false_and, or_false]
theorem Coll.find {f : ByteArray → Option Int} {left : Lit → Bool} {o L : List Nd} (h : Coll f left o) (hl : ∀ kl, left kl = false) (hr : rises L) (hm : ∀ x, x ∈ L ↔ x ∈ o) (s : ByteArray) (i : Int) : findP L s = some i ↔ f s = some i := by
  rw [find_mem hr, hm, h.2, hl]
  simp
theorem Gw.notIter {α : Type} {E : Ec α} {w : World} {B b r n : Nat} {D : DataW Unit} {left : Lit → Bool} {cnt : Nat} {v : Value} {L : List α} (h : Gw E w B v L) (hr : w.ranges Tryz.prog TK (plainElem Tryz.prog TE) b r n D left cnt) : some r ≠ v.ownBlock := row_ne_iter h hr
theorem Gw.notLow {α : Type} {E : Ec α} {w : World} {B : Nat} {v : Value} {L : List α} (h : Gw E w B v L) {b : Nat} (hb : b < B) : some b ≠ v.ownBlock := row_ne_low h hb
theorem Gw.ownOf {α : Type} {E : Ec α} {w : World} {B : Nat} {v : Value} (h : w.ownsRow B E.t E.k v 0 []) : Gw E w B v [] := h

set_option maxRecDepth 100000 in
set_option maxHeartbeats 4000000 in
theorem ascending_any (b n : Nat) (f : ByteArray → Option Int) (w : World) (h : Mf w b n f) (hn : n ≤ 1048576) :
    Calls Tryz.prog 84 #[.map (some b)] w fun e w' => ∃ p l c L, e = .returned (.slice p l c) ∧ Gw encN w' w.heap.size (.slice p l c) L ∧ rises L ∧ (∀ s i, findP L s = some i ↔ f s = some i) ∧ l ≤ n ∧ Below w.heap.size w w' := by
  obtain ⟨h0, D, hown, hd⟩ := h
  obtain ⟨i0, hi, hz0, hz1, hz2⟩ := info_parts infoN
  have hbl := hown.lt
  have hsz := hown.size_le
  have HSZ := Lib.hid hsz
  have HD := Lib.hid hd
  have H0 := Lib.hid h0
  obtain ⟨S, hS⟩ : ∃ S, Maps.size D = S := ⟨_, rfl⟩
  have HS := Lib.hid hS
  have HSN : Hid (S ≤ n) := Lib.hid (by rw [← hS]; exact hsz)
  have HNN := Lib.hid hn
  have HBL := Lib.hid hbl
  have HOWN := Lib.hid hown
  clear hown hd h0 hsz hn hbl
  go_enter Tryz.func84, Tryz.ntmps84
  go_wp2_with (first
    | (at_len; refine wpList_len_own _ rfl _ TM rfl TK TE undM _ b n D rfl HOWN.out ?_; rw [HS.out])
    | (at_make; refine wpList_make_own _ rfl _ _ 61 rfl w.heap.size encN.t i0 nzero 2 Tryz.underlying61 hi hz0 hz1 _ _ _ S rfl rfl rfl (by rw [hz2]; have := HSN.out; have := HNN.out; omega) (by have := HSN.out; have := HNN.out; unfold maxLen; omega) (Nat.le_refl _) ?_; intro w1 hrow1 hg1
       have HR1 : Hid (Gw encN w1 w.heap.size (.slice (some ⟨w.heap.size, 0, none⟩) 0 S) []) := Lib.hid hrow1
       have HG1 := Lib.hid hg1; clear hrow1 hg1)
    | (at_range; refine wpList_range_own _ rfl _ TM rfl TK TE lawK undM _ b n D rfl (HOWN.out.kept HG1.out (by simp)) ?_; intro w0 hrg0 hg0 hs0; have HRG0 := Lib.hid hrg0; have HG0 := Lib.hid hg0; clear hrg0 hg0 hs0))
  go_frame
  obtain ⟨R, hR⟩ : ∃ R, w1.heap.size = R := ⟨_, rfl⟩
  rw [hR] at HRG0
  have HWR : Hid (w.heap.size ≤ R) := Lib.hid (by rw [← hR]; exact HG1.out.size)
  simp only [hR]
  clear hR
  go_loopw [3] (fun v wr => ∃ (left : Lit → Bool) (cnt : Nat) (o : List Nd), wr.ranges Tryz.prog TK (plainElem Tryz.prog TE) b R n D left cnt ∧ o.length + cnt ≤ S ∧ Hid (Gw encN wr w.heap.size v o) ∧ Hid (Coll f left o) ∧ Hid (Below w.heap.size w wr))
    (fun _ wr => wr.rangeLeft b R)
  case atStart =>
    exact ⟨_, _, [], HRG0.out, by rw [HS.out]; simp, Lib.hid (HR1.out.kept HG0.out (by simp)), Lib.hid (Coll.start HD.out H0.out), Lib.hid (((Below.refl _ _).grown HG1.out (Nat.le_refl _) (fun j hj => by cases hj)).grown HG0.out HG1.out.size (fun j hj => by cases hj))⟩
  case round =>
    obtain ⟨left, cnt, o, hrg, hcs, HO, HC, HB⟩ := hrel
    have HRG := Lib.hid hrg
    have HCS := Lib.hid hcs
    clear hrg hcs HR1 HG1 HG0 HRG0
    go_wp2_with (at_next; refine wpList_next_ranges _ rfl _ rfl TK lawK (plainElem Tryz.prog TE) Value.string (Value.int .i64) (fun key kl hk => by obtain ⟨x, hx, _⟩ := keyOf_str Tryz.underlying9 hk; exact ⟨⟨x.toArray⟩, hx⟩) (fun v y hv => by obtain ⟨c, rfl, _⟩ := plainElem_int_inv undE hv; exact ⟨c, rfl⟩) b R n D left cnt rfl HRG.out ?_ ?_)
    · intro hc0 hl0
      have HL0 := Lib.hid hl0
      obtain ⟨q, cp, hv, _, _, _, _⟩ := HO.out.open
      subst hv
      have HOL : Hid (o.length ≤ n) := Lib.hid (by have := HSN.out; have := HCS.out; omega)
      clear hc0 hl0
      go_wp2_with fail
      refine (sortN_any w.heap.size o.length cp q o _ HO.out HB.out.size (Nat.le_trans HOL.out HNN.out) HC.out.1).mono ?_
      rintro e w2 ⟨rfl, L', hg2, hr2, hm2, hb2⟩
      have HG2 := Lib.hid hg2
      have HR2 := Lib.hid hr2
      have HM2 := Lib.hid hm2
      have HB2 := Lib.hid (HB.out.trans hb2)
      clear hg2 hr2 hm2 hb2
      go_wp2
      go_ret
      exact ⟨q, o.length, cp, L', rfl, HG2.out, HR2.out, fun s i => HC.out.find HL0.out HR2.out HM2.out s i, HOL.out, HB2.out⟩
    · intro x c kl yd yp w1 cnt1 hkey hlk hv hat hrg hlt hg hs hen
      obtain ⟨x', ex, rfl, hlen⟩ := keyOf_str Tryz.underlying9 hkey
      obtain ⟨c', ec, hyy, hwc⟩ := plainElem_int_inv undE hv
      simp only [Value.int.injEq, true_and] at ec
      subst ec
      obtain ⟨rfl, _⟩ := Prod.mk.inj hyy
      have hx : x = ⟨x'.toArray⟩ := by simpa [Go.Proofs.encStr] using ex
      have hkl : keyL x = .string x' := by rw [hx]; rfl
      have hxs : x.size ≤ maxLen := by rw [hx]; exact hlen
      rw [← hkl] at hlk hrg hat
      have hfx := Coll.met HD.out hxs hat
      have hok := H0.out _ _ hfx
      have HC1 := Lib.hid (HC.out.step hfx hok.1 hlk)
      have HRG1 := Lib.hid hrg
      have HO1 := Lib.hid (HO.out.kept hg (fun g h1 h2 => HO.out.notIter HRG.out (by rw [h1]; exact h2.symm)))
      have HB1 : Hid (Below w.heap.size w w1) := Lib.hid (HB.out.grown hg HB.out.size (fun j hj => by cases hj; exact HWR.out))
      have HLT := Lib.hid hlt
      obtain ⟨wB, hwB⟩ : ∃ W, w1.alloc (.cells #[.string x, .int .i64 c] 75) = W := ⟨_, rfl⟩
      obtain ⟨G, hG⟩ : ∃ G, w1.heap.size = G := ⟨_, rfl⟩
      have HO2 : Hid (Gw encN wB w.heap.size _ o) := Lib.hid (by rw [← hwB]; exact HO1.out.alloc _)
      have HN2 : Hid (Gs encN wB (some ⟨G, 0, none⟩) 1 [⟨x, c⟩]) := Lib.hid (by rw [← hwB, ← hG]; exact Gs.one encN _ ⟨x, c⟩ _ rfl _ _)
      have HB2 : Hid (Below w.heap.size w wB) := Lib.hid (by rw [← hwB]; exact below_allocF HB1.out _)
      have HRG2 : Hid (wB.ranges Tryz.prog TK (plainElem Tryz.prog TE) b R n D _ cnt1) := Lib.hid (by rw [← hwB]; exact HRG1.out.alloc _)
      have HZ : Hid (o.length + 1 ≤ 2097152) := Lib.hid (by have := HSN.out; have := HNN.out; have := HCS.out; omega)
      clear hkey hlk hv hat hrg hlt hg hs hfx hok hlen hwc hkl hxs hx ex
      go_wp2_with (refine wpList_append_gen encN rfl (.tmp 16) (.tmp 20) 61 rfl Tryz.underlying61 nzero 24 infoN rfl (by decide) w.heap.size _ _ rfl HO2.out _ 1 1 [⟨x, c⟩] rfl HN2.out (fun h => by cases h) HZ.out HB2.out.size ?_; intro v3 w3 ho3 hg3; have HO3 := Lib.hid ho3; have HG3 := Lib.hid hg3; clear ho3 hg3)
      have HRG3 := Lib.hid (HRG2.out.kept HG3.out (HO2.out.notLow HBL.out) (HO2.out.notIter HRG2.out))
      go_roundw
      case rel =>
        exact ⟨_, cnt1, _, HRG3.out, by have := HCS.out; have := HLT.out; simp; omega, HO3, HC1, Lib.hid (below_new_gw HB2.out HO2.out HG3.out HB2.out.size)⟩
      case measure => rw [HRG3.out.left_eq, HRG.out.left_eq]; exact HLT.out
end Go.Proofs.YtncbgddgkpaoeaaGreat
